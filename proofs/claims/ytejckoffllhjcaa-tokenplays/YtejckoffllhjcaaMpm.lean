/-
  Words for memory: a map[channel][]message (package token) that reads as a function of pairs, its slices as they are; 'm[k] = append(m[k], ..)' in its two halves; ranging over it.
-/
import Derived.Test.YtejckoffllhjcaaRows
import Derived.Test.YtejckoffllhjcaaIntW
import Derived.KernelRfl
import Derived.WideKeyEntry
import Derived.DeepKeys4
import Derived.Maps.OwnSet
import Derived.Maps.RangeWalk
namespace Go.Proofs.Ytejckoffllhjcaa
open Go.RowKit Go.Maps Go.WideMaps

/-- A channel. -/
def chM (i j : Nat) : Value := .agg #[.int .i64 (i : Int), .int .i64 (j : Int)]
def kyM (i j : Nat) : Lit := .string (keyBytes [.int .i64 (i : Int), .int .i64 (j : Int)])

/-- A slice that is nil. -/
def snil : Value := .slice none 0 0
theorem laidMpm : laidOutB Try.prog = true := by kernel_rfl
theorem rowMpm : (74 : TypeId) < Try.prog.types.size := of_decide_eq_true (by kernel_rfl)
theorem cellsMpm : Try.prog.cellsOf 74 = 2 := by kernel_rfl
theorem oneMpm : Try.prog.cellsOf 3 = 1 := by kernel_rfl
theorem typeMpm : Try.prog.keyType 74 = true := by kernel_rfl
theorem wideMpm : (match Try.prog.underlying 74 with | some (.array _ _) | some (.struct _) => true | _ => false) = true := by rw [Try.underlying74]
theorem klawMpm : KeyLaw Try.prog 74 := deep_law_laid laidMpm (m := 2) (by omega) rowMpm (by kernel_rfl) wideMpm
theorem lawMpm : Keyed Try.prog 74 := Keyed.of_law klawMpm
theorem typesMpm : ∃ m, Try.prog.types.size = m + 1 := by
  have h : 0 < Try.prog.types.size := Nat.lt_of_le_of_lt (Nat.zero_le _) rowMpm
  generalize Try.prog.types.size = z at *
  exact ⟨z - 1, by omega⟩
theorem zeroMpm (w : World) : (zeroValue 75).run Try.prog w = .ok snil w := by kernel_rfl
theorem keyOfMpm {i j : Nat} (hi : i < 1000) (hj : j < 1000) : keyOf Try.prog 74 (chM i j) = some (kyM i j) := by
  have w1 : (Lit.int .i64 (i : Int)).wf = true := WalkArith.wf_i64 (by omega)
  have w2 : (Lit.int .i64 (j : Int)).wf = true := WalkArith.wf_i64 (by omega)
  have hkt := typeMpm
  obtain ⟨m, hm⟩ := typesMpm
  unfold keyOf chM kyM
  simp only [Try.underlying74]
  rw [if_pos (by simp [hkt, Value.formed, cellsMpm]), hm]
  unfold Program.keyLits
  simp only [Try.underlying74, Value.cells]
  rw [if_pos (by rw [cellsMpm]; simp)]
  simp [oneMpm, Program.keyLits, Try.underlying3, w1, w2]
theorem kyM_inj {i j a b : Nat} (hi : i < 1000) (hj : j < 1000) (ha : a < 1000) (hb : b < 1000) (h : kyM i j = kyM a b) : i = a ∧ j = b := by
  have h1 := keyOfMpm ha hb
  rw [← h] at h1
  have h2 := lawMpm.inj (keyOfMpm hi hj) h1
  unfold chM at h2
  simp only [Value.agg.injEq] at h2
  simp at h2
  omega
theorem kyM_val {x : Value} {i j : Nat} (hi : i < 1000) (hj : j < 1000) (h : keyOf Try.prog 74 x = some (kyM i j)) : x = chM i j := lawMpm.inj h (keyOfMpm hi hj)

/-- What a map's reading says: f, and no other key. -/
structure DatM (D : DataW Value) (f : Nat → Nat → Option Value) : Prop where
  at_ : ∀ i j v, f i j = some v → ∀ zd, D.atKey (kyM i j) zd = .held v
  no_ : ∀ i j, i < 1000 → j < 1000 → f i j = none → ∀ zd, D.atKey (kyM i j) zd = zd
  has_ : ∀ i j v, f i j = some v → Maps.has D (kyM i j) = true
  key : ∀ kl, Maps.has D kl = true → ∃ i j v, f i j = some v ∧ kl = kyM i j
  low : ∀ i j v, f i j = some v → i < 1000 ∧ j < 1000
/-- Block M is a map that reads as f. -/
def MpM (w : World) (M n : Nat) (f : Nat → Nat → Option Value) : Prop := ∃ D : DataW Value, w.ownsMap Try.prog 74 heldElem M n D ∧ DatM D f
def putM (f : Nat → Nat → Option Value) (i j : Nat) (v : Value) : Nat → Nat → Option Value := fun x y => if x = i ∧ y = j then some v else f x y
theorem putM_same (f : Nat → Nat → Option Value) (i j : Nat) (v : Value) : putM f i j v i j = some v := by simp [putM]
theorem putM_other (f : Nat → Nat → Option Value) {i j x y : Nat} (v : Value) (h : ¬ (x = i ∧ y = j)) : putM f i j v x y = f x y := by simp only [putM, if_neg h]
section
variable {w w' : World} {M n : Nat} {f : Nat → Nat → Option Value}
theorem MpM.lt (h : MpM w M n f) : M < w.heap.size := by obtain ⟨_, h, _⟩ := h; exact h.lt
theorem MpM.mono {c : Nat} (hM : MpM w M n f) (hc : n ≤ c) : MpM w M c f := by
  obtain ⟨D, h1, h2⟩ := hM
  exact ⟨D, h1.mono hc, h2⟩
theorem MpM.obj (h : MpM w M n f) : ∃ es c, w.heap[M]? = some (.map es c) := by
  obtain ⟨D, ⟨es, c, h1, _⟩, _⟩ := h
  exact ⟨es, c, h1⟩
theorem MpM.made (w : World) : MpM (w.alloc (.map #[] 0)) w.heap.size 0 (fun _ _ => none) :=
  ⟨.map [], World.ownsMap_made _ _ _ _, ⟨fun _ _ _ h => (by cases h), fun _ _ _ _ _ _ => rfl, fun _ _ _ h => (by cases h), fun kl h => (by simp [Maps.has] at h), fun _ _ _ h => (by cases h)⟩⟩
theorem MpM.block (h : MpM w M n f) (hb : w'.heap[M]? = w.heap[M]?) : MpM w' M n f := by
  obtain ⟨D, ⟨es, c, h1, h3⟩, h2⟩ := h
  exact ⟨D, ⟨es, c, hb.trans h1, h3⟩, h2⟩
theorem MpM.kept {row : Option Nat} (h : MpM w M n f) (hg : w.grownBy w' row) (hne : some M ≠ row) : MpM w' M n f := h.block (hg.block M h.lt hne)
theorem MpM.alloc (h : MpM w M n f) (o : Obj) : MpM (w.alloc o) M n f := h.kept (World.grownBy_alloc w o none) (by simp)
theorem MpM.far (h : MpM w M n f) {p : Addr} (hp : M ≠ p.block) (u : Value) : MpM (w.setCell p u) M n f := h.block (Below.heap_setCell w p u M hp)
theorem MpM.ne_row {g : Nat} {t : TypeId} {ys : List Value} (h : MpM w M n f) (hg : Row w g t ys) : M ≠ g := by
  intro e
  subst e
  obtain ⟨es, c, h1⟩ := h.obj
  unfold Row at hg
  rw [h1] at hg
  injection hg with hg
  cases hg

/-- 'm[k]'. -/
theorem MpM.look (h : MpM w M n f) {i j : Nat} (hi : i < 1000) (hj : j < 1000) :
    (Instr.lookup 66 (.map (some M)) (chM i j) false).run Try.prog w = .ok ((f i j).getD snil) w := by
  obtain ⟨D, h1, h2⟩ := h
  obtain ⟨u, ps, hrun, hv⟩ := h1.lookup lawMpm Try.underlying66 (zeroMpm w) (zd := .held snil) (zp := []) rfl (keyOfMpm hi hj)
  have e : u = (f i j).getD snil := by
    cases hf : f i j with
    | none =>
      rw [h2.no_ i j hi hj hf] at hv
      unfold heldElem at hv
      injection hv with hv
      injection hv with hv
      injection hv
    | some v =>
      rw [h2.at_ i j v hf] at hv
      unfold heldElem at hv
      injection hv with hv
      injection hv with hv
      injection hv
  rw [hrun, e]
/-- 'm[k] = v' as a run. -/
theorem MpM.update (h : MpM w M n f) (hn : n < maxLen) {i j : Nat} (hi : i < 1000) (hj : j < 1000) (v : Value) :
    ∃ w', (Instr.mapUpdate 66 (.map (some M)) (chM i j)  v).run Try.prog w = .ok () w' ∧ MpM w' M (n + 1) (putM f i j v) ∧ w.grownBy w' (some M) := by
  obtain ⟨D, h1, h2⟩ := h
  have hkey := lawMpm.key (keyOfMpm hi hj)
  have hmap := h1.isMap
  obtain ⟨w1, hrun, hown1, hgrow1⟩ := h1.update lawMpm Try.underlying66 hn (keyOfMpm hi hj) (val := v) (d := .held v) (ps := []) rfl
  have hne : ∀ {a b : Nat}, a < 1000 → b < 1000 → ¬ (a = i ∧ b = j) → kyM a b ≠ kyM i j := fun ha hb e h => e (kyM_inj ha hb hi hj h)
  refine ⟨w1, hrun, ⟨_, hown1, fun a b u hu zd => ?_, fun a b ha hb hu zd => ?_, fun a b u hu => ?_, fun kl hkl => ?_, fun a b u hu => ?_⟩, hgrow1⟩
  · by_cases e : a = i ∧ b = j
    · obtain ⟨rfl, rfl⟩ := e
      rw [putM_same] at hu
      injection hu with hu
      subst hu
      rw [atKey_put_same hmap hkey]
    · rw [putM_other _ _ e] at hu
      have := h2.low a b u hu
      rw [atKey_put_other (hne this.1 this.2 e)]
      exact h2.at_ a b u hu zd
  · by_cases e : a = i ∧ b = j
    · obtain ⟨rfl, rfl⟩ := e
      rw [putM_same] at hu; cases hu
    · rw [putM_other _ _ e] at hu
      rw [atKey_put_other (hne ha hb e)]
      exact h2.no_ a b ha hb hu zd
  · by_cases e : a = i ∧ b = j
    · obtain ⟨rfl, rfl⟩ := e
      rw [has_put_same hmap hkey]
    · rw [putM_other _ _ e] at hu
      have := h2.low a b u hu
      rw [has_put_other (hne this.1 this.2 e)]
      exact h2.has_ a b u hu
  · by_cases e : kl = kyM i j
    · exact ⟨i, j, v, putM_same _ _ _ _, e⟩
    · rw [has_put_other e] at hkl
      obtain ⟨a, b, u, hu, rfl⟩ := h2.key kl hkl
      exact ⟨a, b, u, by rw [putM_other _ _ (fun h => e (by rw [h.1, h.2]))]; exact hu, rfl⟩
  · by_cases e : a = i ∧ b = j
    · rw [e.1, e.2]; exact ⟨hi, hj⟩
    · rw [putM_other _ _ e] at hu; exact h2.low a b u hu
/-- The first half of 'm[k] = append(m[k], ..)': the entry is made ready, and tells what is there; the second: it is stored into, whatever has turned beside the map. -/
theorem MpM.entry (h : MpM w M n f) (hn : n < maxLen) {i j : Nat} (hi : i < 1000) (hj : j < 1000) :
    ∃ (st : Int) (w1 : World), (Instr.mapEntry 66 (.map (some M)) (chM i j)).run Try.prog w = .ok (.tuple #[(f i j).getD snil, .int .i64 st]) w1 ∧ w.grownBy w1 (some M) ∧ w1.heap.size = w.heap.size ∧ (∃ es1 c1, w1.heap[M]? = some (.map es1 c1)) ∧
      ∀ (w1' : World) (v : Value), w1'.heap[M]? = w1.heap[M]? → ∃ w2, (Instr.entryStore 66 (.map (some M)) (.int .i64 st) v).run Try.prog w1' = .ok () w2 ∧
        MpM w2 M (n + 1) (putM f i j v) ∧ w1'.grownBy w2 (some M) ∧ w2.heap.size = w1'.heap.size := by
  have hupd := fun v => h.update hn hi hj v
  have hlook := h.look hi hj
  obtain ⟨D, ⟨es, clock, hb, F, hsz, hD⟩, h2⟩ := h
  obtain ⟨v0, st, es1, clock1, e1, e2, e3⟩ := Go.WideElems.entry_then_store klawMpm Try.underlying66 zeroMpm hb F (keyOfMpm hi hj)
  have hb1 : (ChangeMaps.setBlock w M (.map es1 clock1)).heap[M]? = some (.map es1 clock1) := ChangeMaps.heap_setBlock_same hb _
  have hg1 : w.grownBy (ChangeMaps.setBlock w M (.map es1 clock1)) (some M) := ⟨rfl, rfl, rfl, by simp [ChangeMaps.setBlock], fun i _ hi => ChangeMaps.heap_setBlock_other hb _ (fun e => hi (by rw [e]))⟩
  have hv0 : v0 = (f i j).getD snil := by
    rcases lawMpm.find w (keyOfMpm hi hj) es.toList F.keys with ⟨f1, f2⟩ | ⟨x, e0, f1, f2, f3⟩
    · have l2 : (Instr.lookup 66 (.map (some M)) (chM i j) false).run Try.prog w = .ok snil w := by
        simp [Instr.lookup, run_underlying Try.underlying66, MapKept.run_getObj_map hb, lawMpm.check w _ (keyOfMpm hi hj), f1, Result.andThen, snil]
      have r1 : (Instr.mapEntry 66 (.map (some M)) (chM i j)).run Try.prog w = .ok (.tuple #[snil, goInt clock]) (ChangeMaps.setBlock w M (.map (es.push ⟨chM i j, snil, clock⟩) (clock + 1))) := by
        simp [Instr.mapEntry, run_underlying Try.underlying66, MapKept.run_getObj_map hb, lawMpm.check w false (keyOfMpm hi hj), f1, MapKept.run_setObj_map _ hb, Result.andThen, ChangeMaps.setBlock, snil]
      rw [hlook] at l2
      rw [e1] at r1
      injection l2 with l2
      injection r1 with r1
      simp at r1
      rw [r1.1, l2]
    · have hj' : es[x]? = some e0 := by simpa using f2
      have l2 : (Instr.lookup 66 (.map (some M)) (chM i j) false).run Try.prog w = .ok e0.val w := by
        simp [Instr.lookup, run_underlying Try.underlying66, MapKept.run_getObj_map hb, lawMpm.check w _ (keyOfMpm hi hj), f1, Result.andThen]
      have hsame : es.modify x (fun e => { e with key := chM i j }) = es := by
        apply Array.ext'
        rw [Array.toList_modify, ChangeMaps.modify_eq_set _ _ _ _ f2]
        have : ({ e0 with key := chM i j } : MapEntry) = e0 := by rw [← f3]
        rw [this]
        exact Go.WideElems.set_self _ _ _ f2
      have r1 : (Instr.mapEntry 66 (.map (some M)) (chM i j)).run Try.prog w = .ok (.tuple #[e0.val, goInt e0.born]) (ChangeMaps.setBlock w M (.map es clock)) := by
        simp [Instr.mapEntry, run_underlying Try.underlying66, MapKept.run_getObj_map hb, lawMpm.check w false (keyOfMpm hi hj), f1, hj', f3, lawMpm.stays w (keyOfMpm hi hj), hsame, MapKept.run_setObj_map _ hb, Result.andThen, ChangeMaps.setBlock]
      rw [hlook] at l2
      rw [e1] at r1
      injection l2 with l2
      injection r1 with r1
      simp at r1
      rw [r1.1, l2]
  rw [hv0] at e1
  refine ⟨_, _, e1, hg1, by simp [ChangeMaps.setBlock], ⟨_, _, hb1⟩, fun w1' v hw => ?_⟩
  rw [hb1] at hw
  obtain ⟨es', clock', e4, e5⟩ := e3 w1' v hw
  obtain ⟨w', hrun, hC, hg⟩ := hupd v
  rw [hrun] at e5
  have ew : w' = ChangeMaps.setBlock w M (.map es' clock') := by injection e5
  refine ⟨_, e4, hC.block ?_, ⟨rfl, rfl, rfl, by simp [ChangeMaps.setBlock], fun i _ hi => ChangeMaps.heap_setBlock_other hw _ (fun e => hi (by rw [e]))⟩, by simp [ChangeMaps.setBlock]⟩
  rw [ChangeMaps.heap_setBlock_same hw _, ew, ChangeMaps.heap_setBlock_same hb _]
end

/-- Ranging over a map that reads as f: 'L i j': the entry at (i, j) is still to come. -/
def RngM (w : World) (M r n : Nat) (f : Nat → Nat → Option Value) (L : Nat → Nat → Bool) : Prop :=
  ∃ D left cnt, w.ranges Try.prog 74 heldElem M r n D left cnt ∧ DatM D f ∧ (∀ kl, left kl = true → Maps.has D kl = true) ∧ ∀ i j v, f i j = some v → left (kyM i j) = L i j
section
variable {w w' : World} {M r n : Nat} {f : Nat → Nat → Option Value} {L : Nat → Nat → Bool}
theorem RngM.lt (h : RngM w M r n f L) : r < w.heap.size := by obtain ⟨_, _, _, h, _⟩ := h; exact h.lt
/-- 'range m'. -/
theorem wpList_rangeM {ops : Array Oper} {rest : List Oper} {o : Oper} {a : Act} {Q : Exit → Act → World → Prop}
    (hg : o.guard = none) (m : Operand) (hop : o.op = Op.range 66 m) (M n : Nat) (f : Nat → Nat → Option Value)
    (hm : a.eval m = .map (some M)) (hown : MpM w M n f)
    (hK : ∀ w', RngM w' M w.heap.size n f (fun _ _ => true) → w.grownBy w' none → w'.heap.size = w.heap.size + 1 → wpList Try.prog ops Q rest (a.put o.dst (.pointer (some ⟨w.heap.size, 0, none⟩))) w') :
    wpList Try.prog ops Q (o :: rest) a w := by
  obtain ⟨D, h1, h2⟩ := hown
  refine wpList_range_own w hg m _ hop _ _ lawMpm Try.underlying66 _ M n D hm h1 ?_
  intro w' r1 r2 r3
  exact hK w' ⟨D, _, _, r1, h2, fun _ h => h, fun i j v hv => h2.has_ i j v hv⟩ r2 r3
/-- The step. -/
theorem wpList_nextM {ops : Array Oper} {rest : List Oper} {o : Oper} {a : Act} {Q : Exit → Act → World → Prop}
    (hg : o.guard = none) (it : Operand) (hop : o.op = Op.next it false) (M r n : Nat) (f : Nat → Nat → Option Value) (L : Nat → Nat → Bool)
    (hit : a.eval it = .pointer (some ⟨r, 0, none⟩)) (h : RngM w M r n f L)
    (hDone : (∀ i j v, f i j = some v → L i j = false) → wpList Try.prog ops Q rest (a.put o.dst (.tuple #[.bool false])) w)
    (hMore : ∀ (i j : Nat) (v : Value) (w' : World), f i j = some v → L i j = true → RngM w' M r n f (fun x y => L x y && !(decide (x = i ∧ y = j))) → w'.rangeLeft M r < w.rangeLeft M r → w.grownBy w' (some r) → w'.heap.size = w.heap.size →
      (Instr.entry (.pointer (some ⟨r, 0, none⟩))).run Try.prog w' = .ok (.tuple #[chM i j, v]) w' → wpList Try.prog ops Q rest (a.put o.dst (.tuple #[.bool true, chM i j, v])) w') :
    wpList Try.prog ops Q (o :: rest) a w := by
  obtain ⟨D, left, cnt, hr, hD, hsub, hL⟩ := h
  refine wpList_next_ranges w hg it hop _ lawMpm heldElem (fun x : Value => x) (fun x : Value => x) (fun key kl _ => ⟨key, rfl⟩) (fun v y _ => ⟨v, rfl⟩) M r n D left cnt hit hr ?_ ?_
  · intro h0 hl
    exact hDone fun i j v hv => by rw [← hL i j v hv]; exact hl _
  · intro x c kl y w' cnt' hkey hlk hv hat hrg hlt hgr hsz hen
    obtain ⟨i, j, v, hf, rfl⟩ := hD.key kl (hsub kl hlk)
    obtain ⟨hi, hj⟩ := hD.low i j v hf
    have hx := kyM_val hi hj hkey
    have hc : c = v := by
      have h1 := hat (.held v)
      rw [hD.at_ i j v hf] at h1
      unfold heldElem at hv
      injection hv with hv
      rw [← hv] at h1
      injection h1 with h1
      exact h1.symm
    subst hx hc
    refine hMore i j c w' hf (by rw [← hL i j c hf]; exact hlk) ⟨D, _, cnt', hrg, hD, fun kl' h => hsub kl' (by simp at h; exact h.1), fun a b u hu => ?_⟩ (by rw [hrg.left_eq, hr.left_eq]; exact hlt) hgr hsz hen
    obtain ⟨ha, hb⟩ := hD.low a b u hu
    rw [hL a b u hu]
    congr 2
    rw [Bool.eq_iff_iff]
    constructor
    · intro h
      have := kyM_inj ha hb hi hj (WideAt.sameKey_eq h)
      simp [this]
    · intro h
      simp at h
      rw [h.1, h.2]
      exact WideAt.sameKey_self (lawMpm.key (keyOfMpm hi hj))
end

#print axioms MpM.entry
#print axioms wpList_nextM
end Go.Proofs.Ytejckoffllhjcaa
