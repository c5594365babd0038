/-
  Words for the contract of beaconryref.Turn: what it holds in memory; its closure.
-/
import Derived.Test.YthnmppajakdcaaaTrs
import Derived.Test.YthnmppajakdcaaaTgo
import Derived.Test.YthnmppajakdcaaaGrd
import Derived.Test.YthnmppajakdcaaaQue
import Derived.Test.YthnmppajakdcaaaLtr
import Derived.Test.YthnmppajakdcaaaFir
import Derived.Test.YthnmppajakdcaaaWot
import Derived.Test.YthnmppajakdcaaaHsl
import Derived.Test.YthnmppajakdcaaaIntW
import Derived.Deep.CutRange
import Derived.Deep.AppendLies
import Derived.Laws.ResultCell
import Derived.Laws.EntriesVeiled
import Derived.BigQuiet
import Derived.Deep.QuietTactic
namespace Go.Proofs.Ythnmppajakdcaaa
open Go.RowKit Go.Maps
set_option linter.unusedVariables false

theorem ownsG_blk {w w' : World} {B : Nat} {e : TypeId} {size n : Nat} {v : Value} {xs : List Value} (h : w.ownsRow B e size v n xs) (hb : ∀ g, v.ownBlock = some g → w'.heap[g]? = w.heap[g]?) : w'.ownsRow B e size v n xs := by
  refine ⟨h.1, ?_⟩
  rcases h.2 with h7 | ⟨g, cap, cur, hv, hb', hg, rest⟩
  · exact .inl h7
  · exact .inr ⟨g, cap, cur, hv, hb', (hb g (by rw [hv]; rfl)).trans hg, rest⟩
theorem ownsG_ne {w : World} {B B' : Nat} {e e' : TypeId} {size size' n n' : Nat} {v v' : Value} {xs ys : List Value} (h : w.ownsRow B e size v n xs) (h' : w.ownsRow B' e' size' v' n' ys) (hne : e ≠ e') {g : Nat} (hg : v.ownBlock = some g) : v'.ownBlock ≠ some g := by
  intro hg'
  rcases h.2 with ⟨rfl, _⟩ | ⟨a, cap, cur, rfl, _, ha, _⟩
  · cases hg
  · rcases h'.2 with ⟨rfl, _⟩ | ⟨c, cap', cur', rfl, _, hc, _⟩
    · cases hg'
    · have e1 : a = g := by simpa [Value.ownBlock] using hg
      have e2 : c = g := by simpa [Value.ownBlock] using hg'
      subst e1
      subst e2
      rw [ha] at hc
      injection hc with hc
      injection hc with _ ht
      exact hne ht
theorem Que.ne_owns {w : World} {B B' : Nat} {v v' : Value} {xs : List Int} {e : TypeId} {s n : Nat} {ys : List Value} (h : Que w B v xs) (h' : w.ownsRow B' e s v' n ys) (hne : 3 ≠ e) {g : Nat} (hg : v.ownBlock = some g) : v'.ownBlock ≠ some g := by
  intro hg'
  rcases h with ⟨rfl, _⟩ | ⟨a, off, cap, cur, rfl, _, ha, _⟩
  · cases hg
  · rcases h'.2 with ⟨rfl, _⟩ | ⟨c, cap', cur', rfl, _, hc, _⟩
    · cases hg'
    · have e1 : a = g := by simpa [Value.ownBlock] using hg
      have e2 : c = g := by simpa [Value.ownBlock] using hg'
      subst e1
      subst e2
      rw [ha] at hc
      injection hc with hc
      injection hc with _ ht
      exact hne ht
theorem Que.nums {w : World} {B : Nat} {v : Value} {xs : List Int} (h : Que w B v xs) : ∃ A cap, v = .slice A xs.length cap ∧ xs.length ≤ cap ∧ cap ≤ maxLen ∧ Nums w w.heap.size A xs := by
  rcases h with ⟨rfl, rfl⟩ | ⟨g, off, cap, cur, rfl, h1, h2, h3, h4, h5, h6⟩
  · exact ⟨none, 0, rfl, Nat.le_refl _, Nat.zero_le _, fun h => absurd h (by simp)⟩
  · refine ⟨_, cap, rfl, h3, h4, fun h0 => ⟨g, off, rfl, ?_, fun i hi => ?_⟩⟩
    · rcases Nat.lt_or_ge g w.heap.size with h | h
      · exact h
      · rw [Array.getElem?_eq_none h] at h2; cases h2
    · rw [cell_of_row w g (off + i) cur 3 (0, 0) h2]
      exact h6 i hi

/-! Codes. -/
def codG (cs : List Int) : List Value := cs.map (Value.int .i64)
def OwnC (w : World) (B : Nat) (v : Value) (cs : List Int) : Prop := w.ownsRow B 27 1 v cs.length (codG cs)
theorem OwnC.shape {w : World} {B : Nat} {cs : List Int} {v : Value} (h : OwnC w B v cs) : ∃ A cap, v = .slice A cs.length cap ∧ cs.length ≤ cap ∧ cap ≤ maxLen ∧ Nums w w.heap.size A cs := by
  have hlt := World.ownsRow.lt h
  rcases h.2 with ⟨h7, h8⟩ | ⟨g, cap, cur, hv, hb', hg', hc1, hc2, hc3, hc4⟩
  · exact ⟨none, 0, by rw [h7, h8], by omega, by unfold maxLen; omega, fun h0 => by omega⟩
  · refine ⟨_, cap, hv, hc1, hc2, fun _ => ⟨g, 0, rfl, (hlt g (by rw [hv]; rfl)).2, fun i hi => ?_⟩⟩
    rw [Nat.zero_add, cell_of_row w g i cur 27 (0, 0) hg']
    rw [Nat.mul_one] at hc4
    have : (codG cs)[i]? = some (.int .i64 cs[i]) := by simp [codG, hi]
    rw [← hc4, List.getElem?_take_of_lt hi, Array.getElem?_toList] at this
    exact this
theorem OwnC.push {w : World} {B : Nat} {cs : List Int} {g cap : Nat} {c : Int} (h : w.ownsRow B 27 1 (.slice (some ⟨g, 0, none⟩) (cs.length + 1) cap) (cs.length + 1) (codG cs ++ [.int .i64 c])) : OwnC w B (.slice (some ⟨g, 0, none⟩) (cs.length + 1) cap) (cs ++ [c]) := by
  have e : codG (cs ++ [c]) = codG cs ++ [.int .i64 c] := by simp [codG]
  unfold OwnC
  rw [e, List.length_append]
  exact h

/-! Headers of slices, by their numbers. -/
def hdG (vs : Nat → Value) (a n : Nat) : List Value := (List.range n).map fun i => vs (a + i)
theorem hdG_len (vs : Nat → Value) (a n : Nat) : (hdG vs a n).length = n := by simp [hdG]
theorem hdG_get (vs : Nat → Value) (a n : Nat) {i : Nat} (hi : i < n) : (hdG vs a n)[i]'(by rw [hdG_len]; exact hi) = vs (a + i) := by simp [hdG]
theorem hdG_set (vs : Nat → Value) (a n i : Nat) (v : Value) : (hdG vs a n).set i v = hdG (up1 vs (a + i) v) a n := by
  apply List.ext_getElem
  · simp [hdG]
  · intro b h1 h2
    rw [List.getElem_set]
    by_cases e : i = b
    · subst e; simp [hdG, up1]
    · rw [if_neg e]
      have : ¬ a + b = a + i := by omega
      simp only [hdG, List.getElem_map, List.getElem_range, up1, if_neg this]
theorem hdG_off (vs : Nat → Value) (a n j : Nat) (v : Value) (h : j < a ∨ a + n ≤ j) : hdG (up1 vs j v) a n = hdG vs a n := by
  unfold hdG
  apply List.map_congr_left
  intro i hi
  have := List.mem_range.1 hi
  exact up1_other _ _ (by omega)

/-- Where what Turn holds lies. -/
structure TB where
  bn : Nat
  br : Nat
  bt : Nat
  C : Nat
  A : Nat
  ba : Nat
  I : Nat
  bi : Nat
  H : Nat
  bh : Nat
  W : Nat
/-- What Turn holds: the lists by their numbers: who has replied 0 .., whom one owes a reply n .. -/
structure RfT (w : World) (B n : Nat) (b : TB) (vs : Nat → Value) (f : Nat → List Int) (clk ask : Nat → Int) (ins : Nat → Bool) (vl : Value) (L : List Lt) (vc : Value) (cs : List Int) (R : List Value) : Prop where
  rn : Row w b.bn 3 [.int .i64 (n : Int)]
  rr : Row w b.br 26 [.slice none 0 0, .int .u32 0, .int .u32 0, .int .i64 0]
  rt : Row w b.bt 26 (vc :: R)
  rC : IntRow w b.C n clk
  rA : IntRow w b.A n ask
  ra : Row w b.ba 44 [.slice (some ⟨b.A, 0, none⟩) n n]
  rI : BRowG w b.I n ins
  ri : Row w b.bi 45 [.slice (some ⟨b.I, 0, none⟩) n n]
  rH : Row w b.H 44 (hdG vs 0 n)
  rh : Row w b.bh 46 [.slice (some ⟨b.H, 0, none⟩) n n]
  rW : Row w b.W 44 (hdG vs n n)
  fam : ∀ j, j < 2 * n → Que w B (vs j) (f j)
  apart : ∀ i j, i < 2 * n → j < 2 * n → i ≠ j → (vs i).ownBlock = none ∨ (vs i).ownBlock ≠ (vs j).ownBlock
  ol : OwnL w B vl L
  oc : OwnC w B vc cs
  qn : ∀ j, j < 2 * n → (vs j).ownBlock ≠ some b.C ∧ (vs j).ownBlock ≠ some b.A ∧ (vs j).ownBlock ≠ some b.bn
  ne : b.bt ≠ b.br ∧ b.C ≠ b.A ∧ b.C ≠ b.bn ∧ b.A ≠ b.bn ∧ b.H ≠ b.W ∧ b.H ≠ b.ba ∧ b.W ≠ b.ba
  lo : B ≤ b.bn ∧ B ≤ b.br ∧ B ≤ b.bt ∧ B ≤ b.C ∧ B ≤ b.A ∧ B ≤ b.ba ∧ B ≤ b.I ∧ B ≤ b.bi ∧ B ≤ b.H ∧ B ≤ b.bh ∧ B ≤ b.W
section
variable {w w' w1 : World} {B n : Nat} {b : TB} {vs : Nat → Value} {f : Nat → List Int} {clk ask : Nat → Int} {ins : Nat → Bool} {vl : Value} {L : List Lt} {vc : Value} {cs : List Int} {R : List Value}
theorem RfT.blocks (h : RfT w B n b vs f clk ask ins vl L vc cs R) (hk : ∀ g, B ≤ g → g < w.heap.size → w'.heap[g]? = w.heap[g]?) : RfT w' B n b vs f clk ask ins vl L vc cs R := by
  obtain ⟨l1, l2, l3, l4, l5, l6, l7, l8, l9, l10, l11⟩ := h.lo
  exact ⟨h.rn.block (hk _ l1 h.rn.lt), h.rr.block (hk _ l2 h.rr.lt), h.rt.block (hk _ l3 h.rt.lt), Row.block h.rC (hk _ l4 (Row.lt h.rC)), Row.block h.rA (hk _ l5 (Row.lt h.rA)), h.ra.block (hk _ l6 h.ra.lt), Row.block h.rI (hk _ l7 (Row.lt h.rI)), h.ri.block (hk _ l8 h.ri.lt),
    h.rH.block (hk _ l9 h.rH.lt), h.rh.block (hk _ l10 h.rh.lt), h.rW.block (hk _ l11 h.rW.lt), fun j hj => (h.fam j hj).block fun g e => hk g ((h.fam j hj).lt e).1 ((h.fam j hj).lt e).2, h.apart,
    ownsG_blk h.ol (fun g e => hk g (World.ownsRow.lt h.ol g e).1 (World.ownsRow.lt h.ol g e).2), ownsG_blk h.oc (fun g e => hk g (World.ownsRow.lt h.oc g e).1 (World.ownsRow.lt h.oc g e).2), h.qn, h.ne, h.lo⟩
theorem RfT.alloc (h : RfT w B n b vs f clk ask ins vl L vc cs R) (o : Obj) : RfT (w.alloc o) B n b vs f clk ask ins vl L vc cs R := h.blocks fun g _ hg => Below.heap_alloc w o g hg
theorem RfT.below (h : RfT w B n b vs f clk ask ins vl L vc cs R) (hb : Below w.heap.size w w') : RfT w' B n b vs f clk ask ins vl L vc cs R := h.blocks fun g _ hg => hb.block g hg
theorem RfT.drewN (h : RfT w B n b vs f clk ask ins vl L vc cs R) (k : Nat) : RfT (w.drewN k) B n b vs f clk ask ins vl L vc cs R := h.blocks fun _ _ _ => rfl
theorem RfT.drew (h : RfT w B n b vs f clk ask ins vl L vc cs R) : RfT w.drew B n b vs f clk ask ins vl L vc cs R := h.blocks fun _ _ _ => rfl
theorem RfT.sz (h : RfT w B n b vs f clk ask ins vl L vc cs R) : B ≤ w.heap.size := Nat.le_of_lt (Nat.lt_of_le_of_lt h.lo.1 h.rn.lt)
theorem RfT.congr (h : RfT w B n b vs f clk ask ins vl L vc cs R) {clk' ask' : Nat → Int} {ins' : Nat → Bool} {f' : Nat → List Int} (e1 : ∀ j, j < n → clk j = clk' j) (e2 : ∀ j, j < n → ask j = ask' j) (e3 : ∀ j, j < n → ins j = ins' j) (e4 : ∀ j, j < 2 * n → f j = f' j) : RfT w B n b vs f' clk' ask' ins' vl L vc cs R :=
  { h with rC := IntRow.congr h.rC e1, rA := IntRow.congr h.rA e2, rI := BRowG.congr h.rI e3, fam := fun j hj => by rw [← e4 j hj]; exact h.fam j hj }
theorem RfT.vars (h : RfT w B n b vs f clk ask ins vl L vc cs R) : w.cell? ⟨b.bn, 0, none⟩ = some (.int .i64 (n : Int)) ∧ w.cell? ⟨b.ba, 0, none⟩ = some (.slice (some ⟨b.A, 0, none⟩) n n) ∧ w.cell? ⟨b.bi, 0, none⟩ = some (.slice (some ⟨b.I, 0, none⟩) n n) ∧ w.cell? ⟨b.bh, 0, none⟩ = some (.slice (some ⟨b.H, 0, none⟩) n n) :=
  ⟨h.rn.cell (by simp), h.ra.cell (by simp), h.ri.cell (by simp), h.rh.cell (by simp)⟩
theorem RfT.hcell (h : RfT w B n b vs f clk ask ins vl L vc cs R) {i : Nat} (hi : i < n) : w.cell? ⟨b.H, i, none⟩ = some (vs i) := by
  rw [h.rH.cell (by rw [hdG_len]; exact hi), hdG_get _ _ _ hi, Nat.zero_add]
theorem RfT.wcell (h : RfT w B n b vs f clk ask ins vl L vc cs R) {i : Nat} (hi : i < n) : w.cell? ⟨b.W, i, none⟩ = some (vs (n + i)) := by
  rw [h.rW.cell (by rw [hdG_len]; exact hi), hdG_get _ _ _ hi]
/-- A store into one of the rows of numbers. -/
theorem RfT.setI_ (h : RfT w B n b vs f clk ask ins vl L vc cs R) (i : Nat) (v : Bool) : RfT (w.setCell ⟨b.I, i, none⟩ (.bool v)) B n b vs f clk ask (up1 ins i v) vl L vc cs R := by
  have hr := h.rI
  have hs : ∀ q, q ≠ b.I → (w.setCell ⟨b.I, i, none⟩ (.bool v)).heap[q]? = w.heap[q]? := fun q hq => Below.heap_setCell w ⟨b.I, i, none⟩ (.bool v) q hq
  exact ⟨h.rn.block (hs _ (rowG_ne h.rn hr (by decide))), h.rr.block (hs _ (rowG_ne h.rr hr (by decide))), h.rt.block (hs _ (rowG_ne h.rt hr (by decide))), Row.block h.rC (hs _ (rowG_ne h.rC hr (by decide))), Row.block h.rA (hs _ (rowG_ne h.rA hr (by decide))), h.ra.block (hs _ (rowG_ne h.ra hr (by decide))), BRowG.put hr i v, h.ri.block (hs _ (rowG_ne h.ri hr (by decide))),
    h.rH.block (hs _ (rowG_ne h.rH hr (by decide))), h.rh.block (hs _ (rowG_ne h.rh hr (by decide))), h.rW.block (hs _ (rowG_ne h.rW hr (by decide))), fun j hj => (h.fam j hj).far ((h.fam j hj).ne_row hr (by decide)) _, h.apart,
    ownsG_blk h.ol (fun g e => hs g fun e' => owns_ne_row h.ol hr (by decide) (e' ▸ e)), ownsG_blk h.oc (fun g e => hs g fun e' => owns_ne_row h.oc hr (by decide) (e' ▸ e)), h.qn, h.ne, h.lo⟩
theorem RfT.setC_ (h : RfT w B n b vs f clk ask ins vl L vc cs R) (i : Nat) (v : Int) : RfT (w.setCell ⟨b.C, i, none⟩ (.int .i64 v)) B n b vs f (updI clk i v) ask ins vl L vc cs R := by
  have hr := h.rC
  obtain ⟨n1, n2, n3, n4, n5, n6, n7⟩ := h.ne
  have hs : ∀ q, q ≠ b.C → (w.setCell ⟨b.C, i, none⟩ (.int .i64 v)).heap[q]? = w.heap[q]? := fun q hq => Below.heap_setCell w ⟨b.C, i, none⟩ (.int .i64 v) q hq
  exact ⟨h.rn.block (hs _ n3.symm), h.rr.block (hs _ (rowG_ne h.rr hr (by decide))), h.rt.block (hs _ (rowG_ne h.rt hr (by decide))), IntRow.put hr i v, Row.block h.rA (hs _ n2.symm), h.ra.block (hs _ (rowG_ne h.ra hr (by decide))), Row.block h.rI (hs _ (rowG_ne h.rI hr (by decide))), h.ri.block (hs _ (rowG_ne h.ri hr (by decide))),
    h.rH.block (hs _ (rowG_ne h.rH hr (by decide))), h.rh.block (hs _ (rowG_ne h.rh hr (by decide))), h.rW.block (hs _ (rowG_ne h.rW hr (by decide))), fun j hj => (h.fam j hj).far (h.qn j hj).1 _, h.apart,
    ownsG_blk h.ol (fun g e => hs g fun e' => owns_ne_row h.ol hr (by decide) (e' ▸ e)), ownsG_blk h.oc (fun g e => hs g fun e' => owns_ne_row h.oc hr (by decide) (e' ▸ e)), h.qn, h.ne, h.lo⟩
theorem RfT.setA_ (h : RfT w B n b vs f clk ask ins vl L vc cs R) (i : Nat) (v : Int) : RfT (w.setCell ⟨b.A, i, none⟩ (.int .i64 v)) B n b vs f clk (updI ask i v) ins vl L vc cs R := by
  have hr := h.rA
  obtain ⟨n1, n2, n3, n4, n5, n6, n7⟩ := h.ne
  have hs : ∀ q, q ≠ b.A → (w.setCell ⟨b.A, i, none⟩ (.int .i64 v)).heap[q]? = w.heap[q]? := fun q hq => Below.heap_setCell w ⟨b.A, i, none⟩ (.int .i64 v) q hq
  exact ⟨h.rn.block (hs _ n4.symm), h.rr.block (hs _ (rowG_ne h.rr hr (by decide))), h.rt.block (hs _ (rowG_ne h.rt hr (by decide))), Row.block h.rC (hs _ n2), IntRow.put hr i v, h.ra.block (hs _ (rowG_ne h.ra hr (by decide))), Row.block h.rI (hs _ (rowG_ne h.rI hr (by decide))), h.ri.block (hs _ (rowG_ne h.ri hr (by decide))),
    h.rH.block (hs _ (rowG_ne h.rH hr (by decide))), h.rh.block (hs _ (rowG_ne h.rh hr (by decide))), h.rW.block (hs _ (rowG_ne h.rW hr (by decide))), fun j hj => (h.fam j hj).far (h.qn j hj).2.1 _, h.apart,
    ownsG_blk h.ol (fun g e => hs g fun e' => owns_ne_row h.ol hr (by decide) (e' ▸ e)), ownsG_blk h.oc (fun g e => hs g fun e' => owns_ne_row h.oc hr (by decide) (e' ▸ e)), h.qn, h.ne, h.lo⟩
/-- A store into what is to be returned, behind the codes. -/
theorem RfT.setR (h : RfT w B n b vs f clk ask ins vl L vc cs R) (j : Nat) (v : Value) : RfT (w.setCell ⟨b.bt, j + 1, none⟩ v) B n b vs f clk ask ins vl L vc cs (R.set j v) := by
  have hr := h.rt
  have hs : ∀ q, q ≠ b.bt → (w.setCell ⟨b.bt, j + 1, none⟩ v).heap[q]? = w.heap[q]? := fun q hq => Below.heap_setCell w ⟨b.bt, j + 1, none⟩ v q hq
  exact ⟨h.rn.block (hs _ (rowG_ne h.rn hr (by decide))), h.rr.block (hs _ h.ne.1.symm), hr.set (j + 1) v, Row.block h.rC (hs _ (rowG_ne h.rC hr (by decide))), Row.block h.rA (hs _ (rowG_ne h.rA hr (by decide))), h.ra.block (hs _ (rowG_ne h.ra hr (by decide))), Row.block h.rI (hs _ (rowG_ne h.rI hr (by decide))), h.ri.block (hs _ (rowG_ne h.ri hr (by decide))),
    h.rH.block (hs _ (rowG_ne h.rH hr (by decide))), h.rh.block (hs _ (rowG_ne h.rh hr (by decide))), h.rW.block (hs _ (rowG_ne h.rW hr (by decide))), fun j hj => (h.fam j hj).far ((h.fam j hj).ne_row hr (by decide)) _, h.apart,
    ownsG_blk h.ol (fun g e => hs g fun e' => owns_ne_row h.ol hr (by decide) (e' ▸ e)), ownsG_blk h.oc (fun g e => hs g fun e' => owns_ne_row h.oc hr (by decide) (e' ▸ e)), h.qn, h.ne, h.lo⟩
/-- Something of another type has grown: nothing of it is touched but one list, of letters or of codes. -/
theorem RfT.letters (h : RfT w B n b vs f clk ask ins vl L vc cs R) {vl' : Value} {L' : List Lt} (hown : OwnL w1 B vl' L') (hg : w.grownBy w1 vl.ownBlock) : RfT w1 B n b vs f clk ask ins vl' L' vc cs R := by
  have h1 : ∀ q, q < w.heap.size → vl.ownBlock ≠ some q → w1.heap[q]? = w.heap[q]? := fun q hq hne => hg.block q hq fun e => hne e.symm
  have hr : ∀ {q : Nat} {t : TypeId} {xs : List Value}, Row w q t xs → 52 ≠ t → Row w1 q t xs := fun {q t xs} hq ht => hq.block (h1 q hq.lt (owns_ne_row h.ol hq ht))
  exact ⟨hr h.rn (by decide), hr h.rr (by decide), hr h.rt (by decide), hr h.rC (by decide), hr h.rA (by decide), hr h.ra (by decide), hr h.rI (by decide), hr h.ri (by decide), hr h.rH (by decide), hr h.rh (by decide), hr h.rW (by decide),
    fun j hj => (h.fam j hj).block fun g e => h1 g ((h.fam j hj).lt e).2 ((h.fam j hj).ne_owns h.ol (by decide) e), h.apart, hown, ownsG_blk h.oc (fun q e => h1 q (World.ownsRow.lt h.oc q e).2 (ownsG_ne h.oc h.ol (by decide) e)), h.qn, h.ne, h.lo⟩
/-- Another list of letters, in new memory. -/
theorem RfT.newL (h : RfT w B n b vs f clk ask ins vl L vc cs R) {vl' : Value} {L' : List Lt} (hb : Below w.heap.size w w1) (hown : OwnL w1 w.heap.size vl' L') : RfT w1 B n b vs f clk ask ins vl' L' vc cs R := by
  have h1 := h.below hb
  refine { h1 with ol := ?_ }
  obtain ⟨h7, h8⟩ := hown
  refine ⟨h7, ?_⟩
  rcases h8 with h9 | ⟨g, cap, cur, hv, hb', rest⟩
  · exact .inl h9
  · exact .inr ⟨g, cap, cur, hv, Nat.le_trans h.sz hb', rest⟩
/-- One code more. -/
theorem RfT.code (h : RfT w B n b vs f clk ask ins vl L vc cs R) {vc' : Value} {cs' : List Int} (hown : OwnC w1 B vc' cs') (hg : w.grownBy w1 vc.ownBlock) : RfT (w1.setCell ⟨b.bt, 0, none⟩ vc') B n b vs f clk ask ins vl L vc' cs' R := by
  have h1 : ∀ q, q < w.heap.size → vc.ownBlock ≠ some q → w1.heap[q]? = w.heap[q]? := fun q hq hne => hg.block q hq fun e => hne e.symm
  have hr : ∀ {q : Nat} {t : TypeId} {xs : List Value}, Row w q t xs → 27 ≠ t → Row w1 q t xs := fun {q t xs} hq ht => hq.block (h1 q hq.lt (owns_ne_row h.oc hq ht))
  have ht := hr h.rt (by decide)
  have hs : ∀ q, q ≠ b.bt → (w1.setCell ⟨b.bt, 0, none⟩ vc').heap[q]? = w1.heap[q]? := fun q hq => Below.heap_setCell w1 ⟨b.bt, 0, none⟩ vc' q hq
  have k : ∀ {q : Nat} {t : TypeId} {xs : List Value}, Row w q t xs → 27 ≠ t → t ≠ 26 → Row (w1.setCell ⟨b.bt, 0, none⟩ vc') q t xs := fun {q t xs} hq h1 h2 => (hr hq h1).block (hs _ (rowG_ne (hr hq h1) ht h2))
  have hl : OwnL w1 B vl L := ownsG_blk h.ol (fun q e => h1 q (World.ownsRow.lt h.ol q e).2 (ownsG_ne h.ol h.oc (by decide) e))
  have hf : ∀ j, j < 2 * n → Que w1 B (vs j) (f j) := fun j hj => (h.fam j hj).block fun g e => h1 g ((h.fam j hj).lt e).2 ((h.fam j hj).ne_owns h.oc (by decide) e)
  exact ⟨k h.rn (by decide) (by decide), (hr h.rr (by decide)).block (hs _ h.ne.1.symm), ht.set 0 vc', k h.rC (by decide) (by decide), k h.rA (by decide) (by decide), k h.ra (by decide) (by decide), k h.rI (by decide) (by decide), k h.ri (by decide) (by decide), k h.rH (by decide) (by decide), k h.rh (by decide) (by decide), k h.rW (by decide) (by decide),
    fun j hj => (hf j hj).far ((hf j hj).ne_row ht (by decide)) _, h.apart, ownsG_blk hl (fun g e => hs g fun e' => owns_ne_row hl ht (by decide) (e' ▸ e)), ownsG_blk hown (fun q e => hs q fun e' => owns_ne_row hown ht (by decide) (e' ▸ e)), h.qn, h.ne, h.lo⟩
/-- One list turned: the new slice is in the block of the old one, or in a new one, or nowhere. Its header is stored at (T, i). -/
theorem RfT.putQ (h : RfT w B n b vs f clk ask ins vl L vc cs R) {j T i : Nat} {v' : Value} {xs : List Int} (hT : (T = b.H ∧ j = i ∧ i < n) ∨ (T = b.W ∧ j = n + i ∧ i < n)) (hown : Que w1 B v' xs) (hg : w.grownBy w1 (vs j).ownBlock) (hat : v'.ownBlock = none ∨ v'.ownBlock = (vs j).ownBlock ∨ ∃ g, v'.ownBlock = some g ∧ w.heap.size ≤ g) :
    RfT (w1.setCell ⟨T, i, none⟩ v') B n b (up1 vs j v') (up1 f j xs) clk ask ins vl L vc cs R := by
  have hj : j < 2 * n := by omega
  have hQ := h.fam j hj
  obtain ⟨q1, q2, q3⟩ := h.qn j hj
  obtain ⟨n1, n2, n3, n4, n5, n6, n7⟩ := h.ne
  have h1 : ∀ q, q < w.heap.size → (vs j).ownBlock ≠ some q → w1.heap[q]? = w.heap[q]? := fun q hq hne => hg.block q hq fun e => hne e.symm
  have hr : ∀ {q : Nat} {t : TypeId} {ys : List Value}, Row w q t ys → 3 ≠ t → Row w1 q t ys := fun {q t ys} hq ht => hq.block (h1 q hq.lt (hQ.ne_row hq ht))
  have hri : ∀ {q : Nat} {ys : List Value}, Row w q 3 ys → (vs j).ownBlock ≠ some q → Row w1 q 3 ys := fun {q ys} hq hne => hq.block (h1 q hq.lt hne)
  have hTrow : ∃ ys, Row w1 T 44 ys := by
    rcases hT with ⟨rfl, _, _⟩ | ⟨rfl, _, _⟩
    · exact ⟨_, hr h.rH (by decide)⟩
    · exact ⟨_, hr h.rW (by decide)⟩
  obtain ⟨ys, hTr⟩ := hTrow
  have hs : ∀ q, q ≠ T → (w1.setCell ⟨T, i, none⟩ v').heap[q]? = w1.heap[q]? := fun q hq => Below.heap_setCell w1 ⟨T, i, none⟩ v' q hq
  have k : ∀ {q : Nat} {t : TypeId} {zs : List Value}, Row w1 q t zs → t ≠ 44 → Row (w1.setCell ⟨T, i, none⟩ v') q t zs := fun {q t zs} hq h2 => hq.block (hs _ (rowG_ne hq hTr h2))
  have haT : b.ba ≠ T := by
    rcases hT with ⟨rfl, _, _⟩ | ⟨rfl, _, _⟩
    · exact n6.symm
    · exact n7.symm
  have hfo : ∀ a, a < 2 * n → a ≠ j → Que w1 B (vs a) (f a) := fun a ha hne => (h.fam a ha).kept hg (h.apart a j ha hj hne)
  have hvne : ∀ q, q < w.heap.size → (vs j).ownBlock ≠ some q → v'.ownBlock ≠ some q := fun q hq hne e => by
    rcases hat with h2 | h2 | ⟨g, h2, h3⟩
    · rw [h2] at e; cases e
    · exact hne (h2.symm.trans e)
    · rw [h2] at e; injection e with e; omega
  have hoth : ∀ a, a < 2 * n → a ≠ j → (vs a).ownBlock = none ∨ (vs a).ownBlock ≠ v'.ownBlock := fun a ha hne => by
    cases hb : (vs a).ownBlock with
    | none => exact .inl rfl
    | some g =>
      right
      have hlt := ((h.fam a ha).lt hb).2
      refine fun e => hvne g hlt (fun e2 => ?_) e.symm
      rcases h.apart a j ha hj hne with h3 | h3
      · rw [h3] at hb; cases hb
      · exact h3 (hb.trans e2.symm)
  refine ⟨k (hri h.rn q3) (by decide), k (hr h.rr (by decide)) (by decide), k (hr h.rt (by decide)) (by decide), k (hri h.rC q1) (by decide), k (hri h.rA q2) (by decide), (hr h.ra (by decide)).block (hs _ haT), k (hr h.rI (by decide)) (by decide), k (hr h.ri (by decide)) (by decide), ?_, k (hr h.rh (by decide)) (by decide), ?_,
    fun a ha => ?_, fun a c ha hc hac => ?_, ?_, ?_, fun a ha => ?_, h.ne, h.lo⟩
  · rcases hT with ⟨rfl, rfl, hi⟩ | ⟨rfl, rfl, hi⟩
    · have := (hr h.rH (by decide)).set j v'
      rw [hdG_set, Nat.zero_add] at this
      exact this
    · rw [hdG_off _ _ _ _ _ (.inr (by omega))]
      exact (hr h.rH (by decide)).block (hs _ n5)
  · rcases hT with ⟨rfl, rfl, hi⟩ | ⟨rfl, rfl, hi⟩
    · rw [hdG_off _ _ _ _ _ (.inl hi)]
      exact (hr h.rW (by decide)).block (hs _ n5.symm)
    · have := (hr h.rW (by decide)).set i v'
      rw [hdG_set] at this
      exact this
  · by_cases e : a = j
    · subst e
      rw [up1_same, up1_same]
      exact hown.far (hown.ne_row hTr (by decide)) _
    · rw [up1_other _ _ e, up1_other _ _ e]
      exact (hfo a ha e).far ((hfo a ha e).ne_row hTr (by decide)) _
  · by_cases e : a = j
    · have e2 : c ≠ j := fun e2 => hac (e.trans e2.symm)
      rw [e, up1_same, up1_other _ _ e2]
      cases hv : v'.ownBlock with
      | none => exact .inl rfl
      | some g =>
        right
        intro e3
        rcases hoth c hc e2 with h2 | h2
        · rw [h2] at e3; cases e3
        · exact h2 (e3.symm.trans hv.symm)
    · rw [up1_other _ _ e]
      by_cases e2 : c = j
      · rw [e2, up1_same]; exact hoth a ha e
      · rw [up1_other _ _ e2]; exact h.apart a c ha hc hac
  · have hl : OwnL w1 B vl L := ownsG_blk h.ol (fun q e => h1 q (World.ownsRow.lt h.ol q e).2 (fun e2 => hQ.ne_owns h.ol (by decide) e2 e))
    exact ownsG_blk hl (fun g e => hs g fun e' => owns_ne_row hl hTr (by decide) (e' ▸ e))
  · have hl : OwnC w1 B vc cs := ownsG_blk h.oc (fun q e => h1 q (World.ownsRow.lt h.oc q e).2 (fun e2 => hQ.ne_owns h.oc (by decide) e2 e))
    exact ownsG_blk hl (fun g e => hs g fun e' => owns_ne_row hl hTr (by decide) (e' ▸ e))
  · by_cases e : a = j
    · subst e
      rw [up1_same]
      exact ⟨hvne _ (Row.lt h.rC) q1, hvne _ (Row.lt h.rA) q2, hvne _ h.rn.lt q3⟩
    · rw [up1_other _ _ e]; exact h.qn a ha
end

/-- The closure. -/
def entF (b : TB) : Value := .func (.func 19) #[] #[.pointer (some ⟨b.ba, 0, none⟩), .pointer (some ⟨b.bh, 0, none⟩), .pointer (some ⟨b.bn, 0, none⟩), .pointer (some ⟨b.bi, 0, none⟩)]
set_option maxHeartbeats 2000000 in
theorem entR_any (w : World) (B n : Nat) (b : TB) (vs : Nat → Value) (f : Nat → List Int) (clk ask ask' : Nat → Int) (ins ins' : Nat → Bool) (vl : Value) (L : List Lt) (vc : Value) (cs : List Int) (R : List Value) (h : RfT w B n b vs f clk ask ins vl L vc cs R) (i : Nat) (hi : i < n) (hn : n ≤ 6) (hl : (f i).length ≤ 1000)
    (hyes : 0 < ask i ∧ ((f i).length : Int) = (n : Int) - 1 → (∀ j, j < n → updI ask i 0 j = ask' j) ∧ (∀ j, j < n → up1 ins i true j = ins' j)) (hno : ¬ (0 < ask i ∧ ((f i).length : Int) = (n : Int) - 1) → (∀ j, j < n → ask j = ask' j) ∧ (∀ j, j < n → ins j = ins' j)) :
    Calls Try.prog 19 #[.int .i64 (i : Int), .pointer (some ⟨b.ba, 0, none⟩), .pointer (some ⟨b.bh, 0, none⟩), .pointer (some ⟨b.bn, 0, none⟩), .pointer (some ⟨b.bi, 0, none⟩)] w fun e w' => e = .returned (.tuple #[]) ∧ RfT w' B n b vs f clk ask' ins' vl L vc cs R ∧ Below B w w' := by
  obtain ⟨x0, x1, x2, x3⟩ := h.vars
  have a0 := IntRow.at_ h.rA hi
  have h0 := h.hcell hi
  obtain ⟨Aq, cq, hvq, hc1, hc2, -⟩ := (h.fam i (by omega)).shape
  rw [hvq] at h0
  have hiI : (i : Int) < (n : Int) := by omega
  have hH := Lib.hid h
  have hyH := Lib.hid hyes
  have hnH := Lib.hid hno
  clear h hvq hyes hno
  generalize hx : ask i = x at *
  have hxH := Lib.hid hx
  generalize hln : (f i).length = m at *
  clear hx hln
  by_cases h1 : 0 < x
  · by_cases h2 : (m : Int) = (n : Int) - 1
    · have h2b : ((m : Int) == (n : Int) - 1) = true := by simp [h2]
      have h1b : decide (0 < x) = true := by simp [h1]
      have hfin := Lib.hid (hyH.out ⟨h1, h2⟩)
      clear hyH hnH h2
      go_enter Try.func19, Try.ntmps19
      go_wp2_with fail
      go_quiet (fail)
      have hd := Lib.hid (hH.out.drewN nq)
      generalize hwd : w.drewN nq = wd at *
      have hB0 : Hid (Below B w wd) := by unfold Hid; rw [← hwd]; exact below_drewN (Below.refl B w) nq
      clear x0 x1 x2 x3 a0 h0 hwd hH
      obtain ⟨x0, x1, x2, x3⟩ := hd.out.vars
      have a0 := IntRow.at_ hd.out.rA hi
      have i0 := BRowG.at_ hd.out.rI hi
      have af := Row.frozen hd.out.rA i
      have bf := Row.frozen hd.out.rI i
      rw [hxH.out] at a0
      have hneb : b.A ≠ b.I := rowG_ne hd.out.rA hd.out.rI (by decide)
      have hneba : b.ba ≠ b.I := rowG_ne hd.out.ra hd.out.rI (by decide)
      have hres := Lib.hid (((hd.out.setI_ i true).setA_ i 0).congr (fun _ _ => rfl) hfin.out.1 hfin.out.2 (fun _ _ => rfl))
      have hB2 := Lib.hid ((hB0.out.setCell (p := ⟨b.I, i, none⟩) hd.out.lo.2.2.2.2.2.2.1 (.bool true)).setCell (p := ⟨b.A, i, none⟩) hd.out.lo.2.2.2.2.1 (.int .i64 0))
      generalize ins i = o at *
      clear hd hB0 hfin
      go_wp2_with fail
      go_end0
      exact ⟨rfl, hres.out, hB2.out⟩
    · have h2b : ((m : Int) == (n : Int) - 1) = false := by simpa using h2
      have h1b : decide (0 < x) = true := by simp [h1]
      have hfin := Lib.hid (hnH.out (fun h => h2 h.2))
      clear hyH hnH h2
      go_enter Try.func19, Try.ntmps19
      go_wp2_with fail
      go_quiet (fail)
      go_wp2_with fail
      go_end0
      exact ⟨rfl, (hH.out.drewN _).congr (fun _ _ => rfl) hfin.out.1 hfin.out.2 (fun _ _ => rfl), below_drewN (Below.refl B w) _⟩
  · have h1b : decide (0 < x) = false := by simp [h1]
    have hfin := Lib.hid (hnH.out (fun h => h1 h.1))
    clear hyH hnH
    go_enter Try.func19, Try.ntmps19
    go_wp2_with fail
    go_quiet (fail)
    go_wp2_with fail
    go_end0
    exact ⟨rfl, (hH.out.drewN _).congr (fun _ _ => rfl) hfin.out.1 hfin.out.2 (fun _ _ => rfl), below_drewN (Below.refl B w) _⟩

#print axioms RfT.putQ
#print axioms entR_any
end Go.Proofs.Ythnmppajakdcaaa
