/-
  Words for the contract of beaconryref.Token: what it holds in memory. (GENERATED: gen/rkp.py.)
-/
import Derived.Test.YtejckoffllhjcaaTos
import Derived.Test.YtejckoffllhjcaaGrd
import Derived.Test.YtejckoffllhjcaaQut
import Derived.Test.YtejckoffllhjcaaKix
import Derived.Test.YtejckoffllhjcaaLtr
import Derived.Test.YtejckoffllhjcaaFir
import Derived.Test.YtejckoffllhjcaaWot
import Derived.Test.YtejckoffllhjcaaHsl
import Derived.Test.YtejckoffllhjcaaIntW
import Derived.Deep.CutRange
import Derived.Deep.AppendLies
import Derived.Laws.ResultCell
import Derived.Laws.EntriesVeiled
import Derived.BigQuiet
import Derived.Deep.QuietTactic
namespace Go.Proofs.Ytejckoffllhjcaa
open Go.RowKit Go.Maps
set_option linter.unusedVariables false

theorem ownsG_blk {w w' : World} {B : Nat} {e : TypeId} {size n : Nat} {v : Value} {xs : List Value} (h : w.ownsRow B e size v n xs) (hb : ∀ g, v.ownBlock = some g → w'.heap[g]? = w.heap[g]?) : w'.ownsRow B e size v n xs := by
  refine ⟨h.1, ?_⟩
  rcases h.2 with h7 | ⟨g, cap, cur, hv, hb', hg, rest⟩
  · exact .inl h7
  · exact .inr ⟨g, cap, cur, hv, hb', (hb g (by rw [hv]; rfl)).trans hg, rest⟩
theorem ownsG_ne {w : World} {B B' : Nat} {e e' : TypeId} {size size' n n' : Nat} {v v' : Value} {xs ys : List Value} (h : w.ownsRow B e size v n xs) (h' : w.ownsRow B' e' size' v' n' ys) (hne : e ≠ e') {g : Nat} (hg : v.ownBlock = some g) : v'.ownBlock ≠ some g := by
  intro hg'
  rcases h.2 with ⟨rfl, _⟩ | ⟨a, cap, cur, rfl, _, ha, _⟩
  · cases hg
  · rcases h'.2 with ⟨rfl, _⟩ | ⟨c, cap', cur', rfl, _, hc, _⟩
    · cases hg'
    · have e1 : a = g := by simpa [Value.ownBlock] using hg
      have e2 : c = g := by simpa [Value.ownBlock] using hg'
      subst e1
      subst e2
      rw [ha] at hc
      injection hc with hc
      injection hc with _ ht
      exact hne ht
theorem QueT.ne_owns {te : TypeId} {w : World} {B B' : Nat} {v v' : Value} {xs : List Int} {e : TypeId} {s n : Nat} {ys : List Value} (h : QueT te w B v xs) (h' : w.ownsRow B' e s v' n ys) (hne : te ≠ e) {g : Nat} (hg : v.ownBlock = some g) : v'.ownBlock ≠ some g := by
  intro hg'
  rcases h with ⟨rfl, _⟩ | ⟨a, off, cap, cur, rfl, _, ha, _⟩
  · cases hg
  · rcases h'.2 with ⟨rfl, _⟩ | ⟨c, cap', cur', rfl, _, hc, _⟩
    · cases hg'
    · have e1 : a = g := by simpa [Value.ownBlock] using hg
      have e2 : c = g := by simpa [Value.ownBlock] using hg'
      subst e1
      subst e2
      rw [ha] at hc
      injection hc with hc
      injection hc with _ ht
      exact hne ht
/-! Codes. -/
def codG (cs : List Int) : List Value := cs.map (Value.int .i64)
def OwnC (w : World) (B : Nat) (v : Value) (cs : List Int) : Prop := w.ownsRow B 28 1 v cs.length (codG cs)
theorem OwnC.shape {w : World} {B : Nat} {cs : List Int} {v : Value} (h : OwnC w B v cs) : ∃ A cap, v = .slice A cs.length cap ∧ cs.length ≤ cap ∧ cap ≤ maxLen ∧ Nums w w.heap.size A cs := by
  have hlt := World.ownsRow.lt h
  rcases h.2 with ⟨h7, h8⟩ | ⟨g, cap, cur, hv, hb', hg', hc1, hc2, hc3, hc4⟩
  · exact ⟨none, 0, by rw [h7, h8], by omega, by unfold maxLen; omega, fun h0 => by omega⟩
  · refine ⟨_, cap, hv, hc1, hc2, fun _ => ⟨g, 0, rfl, (hlt g (by rw [hv]; rfl)).2, fun i hi => ?_⟩⟩
    rw [Nat.zero_add, cell_of_row w g i cur 28 (0, 0) hg']
    rw [Nat.mul_one] at hc4
    have : (codG cs)[i]? = some (.int .i64 cs[i]) := by simp [codG, hi]
    rw [← hc4, List.getElem?_take_of_lt hi, Array.getElem?_toList] at this
    exact this
theorem OwnC.push {w : World} {B : Nat} {cs : List Int} {g cap : Nat} {c : Int} (h : w.ownsRow B 28 1 (.slice (some ⟨g, 0, none⟩) (cs.length + 1) cap) (cs.length + 1) (codG cs ++ [.int .i64 c])) : OwnC w B (.slice (some ⟨g, 0, none⟩) (cs.length + 1) cap) (cs ++ [c]) := by
  have e : codG (cs ++ [c]) = codG cs ++ [.int .i64 c] := by simp [codG]
  unfold OwnC
  rw [e, List.length_append]
  exact h

/-! Headers of slices, by their numbers. -/
def hdG (vs : Nat → Value) (a n : Nat) : List Value := (List.range n).map fun i => vs (a + i)
theorem hdG_len (vs : Nat → Value) (a n : Nat) : (hdG vs a n).length = n := by simp [hdG]
theorem hdG_get (vs : Nat → Value) (a n : Nat) {i : Nat} (hi : i < n) : (hdG vs a n)[i]'(by rw [hdG_len]; exact hi) = vs (a + i) := by simp [hdG]
theorem hdG_set (vs : Nat → Value) (a n i : Nat) (v : Value) : (hdG vs a n).set i v = hdG (up1 vs (a + i) v) a n := by
  apply List.ext_getElem
  · simp [hdG]
  · intro b h1 h2
    rw [List.getElem_set]
    by_cases e : i = b
    · subst e; simp [hdG, up1]
    · rw [if_neg e]
      have : ¬ a + b = a + i := by omega
      simp only [hdG, List.getElem_map, List.getElem_range, up1, if_neg this]
theorem hdG_off (vs : Nat → Value) (a n j : Nat) (v : Value) (h : j < a ∨ a + n ≤ j) : hdG (up1 vs j v) a n = hdG vs a n := by
  unfold hdG
  apply List.map_congr_left
  intro i hi
  have := List.mem_range.1 hi
  exact up1_other _ _ (by omega)


/-- Block P begins with n numbers. -/
def PtsK (w : World) (P n : Nat) (pt : Nat → Int) : Prop := ∃ xs, Row w P 3 xs ∧ ∀ i, i < n → xs[i]? = some (.int .i64 (pt i))
section
variable {w w' : World} {P n : Nat} {pt pt' : Nat → Int}
theorem PtsK.row (h : PtsK w P n pt) : ∃ xs, Row w P 3 xs := by obtain ⟨xs, h, _⟩ := h; exact ⟨xs, h⟩
theorem PtsK.lt (h : PtsK w P n pt) : P < w.heap.size := by obtain ⟨xs, h, _⟩ := h; exact h.lt
theorem PtsK.block (h : PtsK w P n pt) (hb : w'.heap[P]? = w.heap[P]?) : PtsK w' P n pt := by obtain ⟨xs, h1, h2⟩ := h; exact ⟨xs, h1.block hb, h2⟩
theorem PtsK.frozen (h : PtsK w P n pt) (i : Nat) : w.frozen? ⟨P, i, none⟩ = false := by obtain ⟨_, h1, _⟩ := h; exact h1.frozen i
theorem PtsK.at_ (h : PtsK w P n pt) {i : Nat} (hi : i < n) : w.cell? ⟨P, i, none⟩ = some (.int .i64 (pt i)) := by
  obtain ⟨xs, h1, h2⟩ := h
  rw [cell_of_row w P i xs.toArray 3 (0, 0) h1]
  simpa using h2 i hi
theorem PtsK.put (h : PtsK w P n pt) {i : Nat} (hi : i < n) (x : Int) : PtsK (w.setCell ⟨P, i, none⟩ (.int .i64 x)) P n (up1 pt i x) := by
  obtain ⟨xs, h1, h2⟩ := h
  refine ⟨_, h1.set i (.int .i64 x), fun a ha => ?_⟩
  by_cases e : a = i
  · subst e
    have hl : a < xs.length := by
      rcases Nat.lt_or_ge a xs.length with h | h
      · exact h
      · have := h2 a hi
        rw [List.getElem?_eq_none h] at this; cases this
    rw [up1_same, List.getElem?_set_self hl]
  · rw [up1_other _ _ e, List.getElem?_set_ne (fun h => e h.symm)]
    exact h2 a ha
theorem PtsK.congr (h : PtsK w P n pt) (e : ∀ i, i < n → pt' i = pt i) : PtsK w P n pt' := by
  obtain ⟨xs, h1, h2⟩ := h
  exact ⟨xs, h1, fun i hi => by rw [e i hi]; exact h2 i hi⟩
end

/-- Where what Token holds lies. -/
structure KB where
  bR : Nat
  bo : Nat
  bp : Nat
  P : Nat
  cp : Nat
  br : Nat
  H : Nat
  bh : Nat
  A : Nat
  bi : Nat
  I : Nat
  bw : Nat
  bg : Nat
/-- The closures. -/
def giveF (b : KB) : Value := .func (.func 22) #[] #[.pointer (some ⟨b.bh, 0, none⟩), .pointer (some ⟨b.bi, 0, none⟩), .pointer (some ⟨b.br, 0, none⟩), .pointer (some ⟨b.bp, 0, none⟩), .pointer (some ⟨b.bw, 0, none⟩)]
def standF (b : KB) : Value := .func (.func 23) #[] #[.pointer (some ⟨b.br, 0, none⟩), .pointer (some ⟨b.bp, 0, none⟩), .pointer (some ⟨b.bw, 0, none⟩), .pointer (some ⟨b.bg, 0, none⟩)]
/-- What Token holds. -/
structure RfK (w : World) (B n : Nat) (b : KB) (vs : Nat → Value) (f : Nat → List Int) (pt : Nat → Int) (hs is : Nat → Bool) (vl : Value) (L : List Lt) (vc : Value) (cs : List Int) (R : List Value) : Prop where
  rr : Row w b.bR 27 [.slice none 0 0, .int .u32 0, .int .u32 0, .int .i64 0]
  ro : Row w b.bo 27 (vc :: R)
  rp : Row w b.bp 22 [.slice (some ⟨b.P, 0, none⟩) n b.cp]
  rP : PtsK w b.P n pt
  rb : Row w b.br 48 [.slice (some ⟨b.H, 0, none⟩) n n]
  rH : Row w b.H 22 (hdG vs 0 n)
  rh : Row w b.bh 49 [.slice (some ⟨b.A, 0, none⟩) n n]
  rA : BRowG w b.A n hs
  ri : Row w b.bi 49 [.slice (some ⟨b.I, 0, none⟩) n n]
  rI : BRowG w b.I n is
  rW : Row w b.bw 50 [vl]
  rg : Row w b.bg 53 [giveF b]
  fam : ∀ j, j < n → QueT 3 w B (vs j) (f j)
  apart : ∀ i j, i < n → j < n → i ≠ j → (vs i).ownBlock = none ∨ (vs i).ownBlock ≠ (vs j).ownBlock
  ol : OwnL w B vl L
  oc : OwnC w B vc cs
  qn : ∀ j, j < n → (vs j).ownBlock ≠ some b.P
  ne : b.bo ≠ b.bR ∧ b.bp ≠ b.H ∧ b.bh ≠ b.bi ∧ b.A ≠ b.I
  lo : B ≤ b.bR ∧ B ≤ b.bo ∧ B ≤ b.bp ∧ B ≤ b.P ∧ B ≤ b.br ∧ B ≤ b.H ∧ B ≤ b.bh ∧ B ≤ b.A ∧ B ≤ b.bi ∧ B ≤ b.I ∧ B ≤ b.bw ∧ B ≤ b.bg
section
variable {w w' w1 : World} {B n : Nat} {b : KB} {vs : Nat → Value} {f : Nat → List Int} {pt : Nat → Int} {hs is : Nat → Bool} {vl : Value} {L : List Lt} {vc : Value} {cs : List Int} {R : List Value}
theorem RfK.blocks (h : RfK w B n b vs f pt hs is vl L vc cs R) (hk : ∀ g, B ≤ g → g < w.heap.size → w'.heap[g]? = w.heap[g]?) : RfK w' B n b vs f pt hs is vl L vc cs R :=
  ⟨h.rr.block (hk _ h.lo.1 h.rr.lt), h.ro.block (hk _ h.lo.2.1 h.ro.lt), h.rp.block (hk _ h.lo.2.2.1 h.rp.lt), h.rP.block (hk _ h.lo.2.2.2.1 h.rP.lt), h.rb.block (hk _ h.lo.2.2.2.2.1 h.rb.lt), h.rH.block (hk _ h.lo.2.2.2.2.2.1 h.rH.lt), h.rh.block (hk _ h.lo.2.2.2.2.2.2.1 h.rh.lt), Row.block h.rA (hk _ h.lo.2.2.2.2.2.2.2.1 (Row.lt h.rA)), h.ri.block (hk _ h.lo.2.2.2.2.2.2.2.2.1 h.ri.lt), Row.block h.rI (hk _ h.lo.2.2.2.2.2.2.2.2.2.1 (Row.lt h.rI)), h.rW.block (hk _ h.lo.2.2.2.2.2.2.2.2.2.2.1 h.rW.lt), h.rg.block (hk _ h.lo.2.2.2.2.2.2.2.2.2.2.2 h.rg.lt), fun j hj => (h.fam j hj).block fun g e => hk g ((h.fam j hj).lt e).1 ((h.fam j hj).lt e).2, h.apart, ownsG_blk h.ol (fun g e => hk g (World.ownsRow.lt h.ol g e).1 (World.ownsRow.lt h.ol g e).2), ownsG_blk h.oc (fun g e => hk g (World.ownsRow.lt h.oc g e).1 (World.ownsRow.lt h.oc g e).2), h.qn, h.ne, h.lo⟩
theorem RfK.alloc (h : RfK w B n b vs f pt hs is vl L vc cs R) (o : Obj) : RfK (w.alloc o) B n b vs f pt hs is vl L vc cs R := h.blocks fun g _ hg => Below.heap_alloc w o g hg
theorem RfK.below (h : RfK w B n b vs f pt hs is vl L vc cs R) (hb : Below w.heap.size w w') : RfK w' B n b vs f pt hs is vl L vc cs R := h.blocks fun g _ hg => hb.block g hg
theorem RfK.drewN (h : RfK w B n b vs f pt hs is vl L vc cs R) (k : Nat) : RfK (w.drewN k) B n b vs f pt hs is vl L vc cs R := h.blocks fun _ _ _ => rfl
theorem RfK.drew (h : RfK w B n b vs f pt hs is vl L vc cs R) : RfK w.drew B n b vs f pt hs is vl L vc cs R := h.blocks fun _ _ _ => rfl
theorem RfK.sz (h : RfK w B n b vs f pt hs is vl L vc cs R) : B ≤ w.heap.size := Nat.le_of_lt (Nat.lt_of_le_of_lt h.lo.1 h.rr.lt)
theorem RfK.congr (h : RfK w B n b vs f pt hs is vl L vc cs R) {pt' : Nat → Int} {hs' is' : Nat → Bool} {f' : Nat → List Int} (e1 : ∀ j, j < n → pt' j = pt j) (e2 : ∀ j, j < n → hs j = hs' j) (e3 : ∀ j, j < n → is j = is' j) (e4 : ∀ j, j < n → f j = f' j) : RfK w B n b vs f' pt' hs' is' vl L vc cs R :=
  { h with rP := h.rP.congr e1, rA := BRowG.congr h.rA e2, rI := BRowG.congr h.rI e3, fam := fun j hj => by rw [← e4 j hj]; exact h.fam j hj }
theorem RfK.hcell (h : RfK w B n b vs f pt hs is vl L vc cs R) {i : Nat} (hi : i < n) : w.cell? ⟨b.H, i, none⟩ = some (vs i) := by
  rw [h.rH.cell (by rw [hdG_len]; exact hi), hdG_get _ _ _ hi, Nat.zero_add]
/-- The boxes. -/
theorem RfK.vars (h : RfK w B n b vs f pt hs is vl L vc cs R) : w.cell? ⟨b.bh, 0, none⟩ = some (.slice (some ⟨b.A, 0, none⟩) n n) ∧ w.cell? ⟨b.bi, 0, none⟩ = some (.slice (some ⟨b.I, 0, none⟩) n n) ∧ w.cell? ⟨b.br, 0, none⟩ = some (.slice (some ⟨b.H, 0, none⟩) n n) ∧ w.cell? ⟨b.bp, 0, none⟩ = some (.slice (some ⟨b.P, 0, none⟩) n b.cp) ∧ w.cell? ⟨b.bw, 0, none⟩ = some vl ∧ w.cell? ⟨b.bg, 0, none⟩ = some (giveF b) :=
  ⟨h.rh.cell (by simp), h.ri.cell (by simp), h.rb.cell (by simp), h.rp.cell (by simp), h.rW.cell (by simp), h.rg.cell (by simp)⟩
theorem RfK.setA_ (h : RfK w B n b vs f pt hs is vl L vc cs R) (i : Nat) (v : Bool) : RfK (w.setCell ⟨b.A, i, none⟩ (.bool v)) B n b vs f pt (up1 hs i v) is vl L vc cs R := by
  have hr := h.rA
  have hk : ∀ q, q ≠ b.A → (w.setCell ⟨b.A, i, none⟩ (.bool v)).heap[q]? = w.heap[q]? := fun q hq => Below.heap_setCell w ⟨b.A, i, none⟩ (.bool v) q hq
  exact ⟨h.rr.block (hk _ (rowG_ne h.rr hr (by decide))), h.ro.block (hk _ (rowG_ne h.ro hr (by decide))), h.rp.block (hk _ (rowG_ne h.rp hr (by decide))), h.rP.block (hk _ (rowG_ne h.rP.row.choose_spec hr (by decide))), h.rb.block (hk _ (rowG_ne h.rb hr (by decide))), h.rH.block (hk _ (rowG_ne h.rH hr (by decide))), h.rh.block (hk _ (rowG_ne h.rh hr (by decide))), BRowG.put hr i v, h.ri.block (hk _ (rowG_ne h.ri hr (by decide))), Row.block h.rI (hk _ (h.ne.2.2.2.symm)), h.rW.block (hk _ (rowG_ne h.rW hr (by decide))), h.rg.block (hk _ (rowG_ne h.rg hr (by decide))), fun j hj => (h.fam j hj).far ((h.fam j hj).ne_row hr (by decide)) _, h.apart, ownsG_blk h.ol (fun g e => hk g fun e' => owns_ne_row h.ol hr (by decide) (e' ▸ e)), ownsG_blk h.oc (fun g e => hk g fun e' => owns_ne_row h.oc hr (by decide) (e' ▸ e)), h.qn, h.ne, h.lo⟩
theorem RfK.setI_ (h : RfK w B n b vs f pt hs is vl L vc cs R) (i : Nat) (v : Bool) : RfK (w.setCell ⟨b.I, i, none⟩ (.bool v)) B n b vs f pt hs (up1 is i v) vl L vc cs R := by
  have hr := h.rI
  have hk : ∀ q, q ≠ b.I → (w.setCell ⟨b.I, i, none⟩ (.bool v)).heap[q]? = w.heap[q]? := fun q hq => Below.heap_setCell w ⟨b.I, i, none⟩ (.bool v) q hq
  exact ⟨h.rr.block (hk _ (rowG_ne h.rr hr (by decide))), h.ro.block (hk _ (rowG_ne h.ro hr (by decide))), h.rp.block (hk _ (rowG_ne h.rp hr (by decide))), h.rP.block (hk _ (rowG_ne h.rP.row.choose_spec hr (by decide))), h.rb.block (hk _ (rowG_ne h.rb hr (by decide))), h.rH.block (hk _ (rowG_ne h.rH hr (by decide))), h.rh.block (hk _ (rowG_ne h.rh hr (by decide))), Row.block h.rA (hk _ (h.ne.2.2.2)), h.ri.block (hk _ (rowG_ne h.ri hr (by decide))), BRowG.put hr i v, h.rW.block (hk _ (rowG_ne h.rW hr (by decide))), h.rg.block (hk _ (rowG_ne h.rg hr (by decide))), fun j hj => (h.fam j hj).far ((h.fam j hj).ne_row hr (by decide)) _, h.apart, ownsG_blk h.ol (fun g e => hk g fun e' => owns_ne_row h.ol hr (by decide) (e' ▸ e)), ownsG_blk h.oc (fun g e => hk g fun e' => owns_ne_row h.oc hr (by decide) (e' ▸ e)), h.qn, h.ne, h.lo⟩
theorem RfK.setP_ (h : RfK w B n b vs f pt hs is vl L vc cs R) {i : Nat} (hi : i < n) (v : Int) : RfK (w.setCell ⟨b.P, i, none⟩ (.int .i64 v)) B n b vs f (up1 pt i v) hs is vl L vc cs R := by
  have hr := h.rP.row.choose_spec
  have hk : ∀ q, q ≠ b.P → (w.setCell ⟨b.P, i, none⟩ (.int .i64 v)).heap[q]? = w.heap[q]? := fun q hq => Below.heap_setCell w ⟨b.P, i, none⟩ (.int .i64 v) q hq
  exact ⟨h.rr.block (hk _ (rowG_ne h.rr hr (by decide))), h.ro.block (hk _ (rowG_ne h.ro hr (by decide))), h.rp.block (hk _ (rowG_ne h.rp hr (by decide))), h.rP.put hi v, h.rb.block (hk _ (rowG_ne h.rb hr (by decide))), h.rH.block (hk _ (rowG_ne h.rH hr (by decide))), h.rh.block (hk _ (rowG_ne h.rh hr (by decide))), Row.block h.rA (hk _ (rowG_ne h.rA hr (by decide))), h.ri.block (hk _ (rowG_ne h.ri hr (by decide))), Row.block h.rI (hk _ (rowG_ne h.rI hr (by decide))), h.rW.block (hk _ (rowG_ne h.rW hr (by decide))), h.rg.block (hk _ (rowG_ne h.rg hr (by decide))), fun j hj => (h.fam j hj).far (h.qn j hj) _, h.apart, ownsG_blk h.ol (fun g e => hk g fun e' => owns_ne_row h.ol hr (by decide) (e' ▸ e)), ownsG_blk h.oc (fun g e => hk g fun e' => owns_ne_row h.oc hr (by decide) (e' ▸ e)), h.qn, h.ne, h.lo⟩
theorem RfK.setR (h : RfK w B n b vs f pt hs is vl L vc cs R) (j : Nat) (v : Value) : RfK (w.setCell ⟨b.bo, j + 1, none⟩ (v)) B n b vs f pt hs is vl L vc cs (R.set j v) := by
  have hr := h.ro
  have hk : ∀ q, q ≠ b.bo → (w.setCell ⟨b.bo, j + 1, none⟩ (v)).heap[q]? = w.heap[q]? := fun q hq => Below.heap_setCell w ⟨b.bo, j + 1, none⟩ (v) q hq
  exact ⟨h.rr.block (hk _ (h.ne.1.symm)), hr.set (j + 1) v, h.rp.block (hk _ (rowG_ne h.rp hr (by decide))), h.rP.block (hk _ (rowG_ne h.rP.row.choose_spec hr (by decide))), h.rb.block (hk _ (rowG_ne h.rb hr (by decide))), h.rH.block (hk _ (rowG_ne h.rH hr (by decide))), h.rh.block (hk _ (rowG_ne h.rh hr (by decide))), Row.block h.rA (hk _ (rowG_ne h.rA hr (by decide))), h.ri.block (hk _ (rowG_ne h.ri hr (by decide))), Row.block h.rI (hk _ (rowG_ne h.rI hr (by decide))), h.rW.block (hk _ (rowG_ne h.rW hr (by decide))), h.rg.block (hk _ (rowG_ne h.rg hr (by decide))), fun j hj => (h.fam j hj).far ((h.fam j hj).ne_row hr (by decide)) _, h.apart, ownsG_blk h.ol (fun g e => hk g fun e' => owns_ne_row h.ol hr (by decide) (e' ▸ e)), ownsG_blk h.oc (fun g e => hk g fun e' => owns_ne_row h.oc hr (by decide) (e' ▸ e)), h.qn, h.ne, h.lo⟩
/-- The letters turned: another slice, the old block has grown; it is stored into its box. -/
theorem RfK.letters (h : RfK w B n b vs f pt hs is vl L vc cs R) {vl' : Value} {L' : List Lt} (hown : OwnL w1 B vl' L') (hg : w.grownBy w1 vl.ownBlock) : RfK (w1.setCell ⟨b.bw, 0, none⟩ vl') B n b vs f pt hs is vl' L' vc cs R := by
  have h1 : ∀ q, q < w.heap.size → vl.ownBlock ≠ some q → w1.heap[q]? = w.heap[q]? := fun q hq hne => hg.block q hq fun e => hne e.symm
  have kr : ∀ {q : Nat} {t : TypeId} {xs : List Value}, Row w q t xs → 52 ≠ t → Row w1 q t xs := fun {q t xs} hq ht => hq.block (h1 q hq.lt (owns_ne_row h.ol hq ht))
  have ht := kr h.rW (by decide)
  have hk : ∀ q, q ≠ b.bw → (w1.setCell ⟨b.bw, 0, none⟩ vl').heap[q]? = w1.heap[q]? := fun q hq => Below.heap_setCell w1 ⟨b.bw, 0, none⟩ vl' q hq
  have hf : ∀ j, j < n → QueT 3 w1 B (vs j) (f j) := fun j hj => (h.fam j hj).block fun g e => h1 g ((h.fam j hj).lt e).2 ((h.fam j hj).ne_owns h.ol (by decide) e)
  have hoc : OwnC w1 B vc cs := ownsG_blk h.oc (fun q e => h1 q (World.ownsRow.lt h.oc q e).2 (ownsG_ne h.oc h.ol (by decide) e))
  exact ⟨(kr h.rr (by decide)).block (hk _ (rowG_ne (kr h.rr (by decide)) ht (by decide))), (kr h.ro (by decide)).block (hk _ (rowG_ne (kr h.ro (by decide)) ht (by decide))), (kr h.rp (by decide)).block (hk _ (rowG_ne (kr h.rp (by decide)) ht (by decide))), (h.rP.block (h1 _ h.rP.lt (owns_ne_row h.ol h.rP.row.choose_spec (by decide)))).block (hk _ (rowG_ne ((kr h.rP.row.choose_spec (by decide))) ht (by decide))), (kr h.rb (by decide)).block (hk _ (rowG_ne (kr h.rb (by decide)) ht (by decide))), (kr h.rH (by decide)).block (hk _ (rowG_ne (kr h.rH (by decide)) ht (by decide))), (kr h.rh (by decide)).block (hk _ (rowG_ne (kr h.rh (by decide)) ht (by decide))), Row.block (kr h.rA (by decide)) (hk _ (rowG_ne (kr h.rA (by decide)) ht (by decide))), (kr h.ri (by decide)).block (hk _ (rowG_ne (kr h.ri (by decide)) ht (by decide))), Row.block (kr h.rI (by decide)) (hk _ (rowG_ne (kr h.rI (by decide)) ht (by decide))), ht.set 0 vl', (kr h.rg (by decide)).block (hk _ (rowG_ne (kr h.rg (by decide)) ht (by decide))), fun j hj => (hf j hj).far ((hf j hj).ne_row ht (by decide)) _, h.apart, ownsG_blk hown (fun g e => hk g fun e' => owns_ne_row hown ht (by decide) (e' ▸ e)), ownsG_blk hoc (fun g e => hk g fun e' => owns_ne_row hoc ht (by decide) (e' ▸ e)), h.qn, h.ne, h.lo⟩
/-- Another list of letters, in new memory. -/
theorem RfK.newL (h : RfK w B n b vs f pt hs is vl L vc cs R) {vl' : Value} {L' : List Lt} (hb : Below w.heap.size w w1) (hown : OwnL w1 w.heap.size vl' L') : RfK (w1.setCell ⟨b.bw, 0, none⟩ vl') B n b vs f pt hs is vl' L' vc cs R := by
  have h2 := h.below hb
  have hown' : OwnL w1 B vl' L' := by
    obtain ⟨h7, h8⟩ := hown
    refine ⟨h7, ?_⟩
    rcases h8 with h9 | ⟨g, cap, cur, hv, hb', rest⟩
    · exact .inl h9
    · exact .inr ⟨g, cap, cur, hv, Nat.le_trans h.sz hb', rest⟩
  exact h2.letters hown' ⟨rfl, rfl, rfl, Nat.le_refl _, fun _ _ _ => rfl⟩
/-- One code more. -/
theorem RfK.code (h : RfK w B n b vs f pt hs is vl L vc cs R) {vc' : Value} {cs' : List Int} (hown : OwnC w1 B vc' cs') (hg : w.grownBy w1 vc.ownBlock) : RfK (w1.setCell ⟨b.bo, 0, none⟩ vc') B n b vs f pt hs is vl L vc' cs' R := by
  have h1 : ∀ q, q < w.heap.size → vc.ownBlock ≠ some q → w1.heap[q]? = w.heap[q]? := fun q hq hne => hg.block q hq fun e => hne e.symm
  have kr : ∀ {q : Nat} {t : TypeId} {xs : List Value}, Row w q t xs → 28 ≠ t → Row w1 q t xs := fun {q t xs} hq ht => hq.block (h1 q hq.lt (owns_ne_row h.oc hq ht))
  have ht := kr h.ro (by decide)
  have hk : ∀ q, q ≠ b.bo → (w1.setCell ⟨b.bo, 0, none⟩ vc').heap[q]? = w1.heap[q]? := fun q hq => Below.heap_setCell w1 ⟨b.bo, 0, none⟩ vc' q hq
  have hf : ∀ j, j < n → QueT 3 w1 B (vs j) (f j) := fun j hj => (h.fam j hj).block fun g e => h1 g ((h.fam j hj).lt e).2 ((h.fam j hj).ne_owns h.oc (by decide) e)
  have hol : OwnL w1 B vl L := ownsG_blk h.ol (fun q e => h1 q (World.ownsRow.lt h.ol q e).2 (ownsG_ne h.ol h.oc (by decide) e))
  exact ⟨(kr h.rr (by decide)).block (hk _ (h.ne.1.symm)), ht.set 0 vc', (kr h.rp (by decide)).block (hk _ (rowG_ne (kr h.rp (by decide)) ht (by decide))), (h.rP.block (h1 _ h.rP.lt (owns_ne_row h.oc h.rP.row.choose_spec (by decide)))).block (hk _ (rowG_ne ((kr h.rP.row.choose_spec (by decide))) ht (by decide))), (kr h.rb (by decide)).block (hk _ (rowG_ne (kr h.rb (by decide)) ht (by decide))), (kr h.rH (by decide)).block (hk _ (rowG_ne (kr h.rH (by decide)) ht (by decide))), (kr h.rh (by decide)).block (hk _ (rowG_ne (kr h.rh (by decide)) ht (by decide))), Row.block (kr h.rA (by decide)) (hk _ (rowG_ne (kr h.rA (by decide)) ht (by decide))), (kr h.ri (by decide)).block (hk _ (rowG_ne (kr h.ri (by decide)) ht (by decide))), Row.block (kr h.rI (by decide)) (hk _ (rowG_ne (kr h.rI (by decide)) ht (by decide))), (kr h.rW (by decide)).block (hk _ (rowG_ne (kr h.rW (by decide)) ht (by decide))), (kr h.rg (by decide)).block (hk _ (rowG_ne (kr h.rg (by decide)) ht (by decide))), fun j hj => (hf j hj).far ((hf j hj).ne_row ht (by decide)) _, h.apart, ownsG_blk hol (fun g e => hk g fun e' => owns_ne_row hol ht (by decide) (e' ▸ e)), ownsG_blk hown (fun g e => hk g fun e' => owns_ne_row hown ht (by decide) (e' ▸ e)), h.qn, h.ne, h.lo⟩
/-- One list turned: the new slice is in the block of the old one, or in a new one, or nowhere. -/
theorem RfK.putQ (h : RfK w B n b vs f pt hs is vl L vc cs R) {j : Nat} {v' : Value} {xs : List Int} (hj : j < n) (hown : QueT 3 w1 B v' xs) (hg : w.grownBy w1 (vs j).ownBlock) (hat : v'.ownBlock = none ∨ v'.ownBlock = (vs j).ownBlock ∨ ∃ g, v'.ownBlock = some g ∧ w.heap.size ≤ g) :
    RfK (w1.setCell ⟨b.H, j, none⟩ v') B n b (up1 vs j v') (up1 f j xs) pt hs is vl L vc cs R := by
  have hQ := h.fam j hj
  have hqP := h.qn j hj
  have h1 : ∀ q, q < w.heap.size → (vs j).ownBlock ≠ some q → w1.heap[q]? = w.heap[q]? := fun q hq hne => hg.block q hq fun e => hne e.symm
  have kr : ∀ {q : Nat} {t : TypeId} {ys : List Value}, Row w q t ys → 3 ≠ t → Row w1 q t ys := fun {q t ys} hq ht => hq.block (h1 q hq.lt (hQ.ne_row hq ht))
  have ht := kr h.rH (by decide)
  have hP1 := h.rP.block (h1 _ h.rP.lt hqP)
  have hk : ∀ q, q ≠ b.H → (w1.setCell ⟨b.H, j, none⟩ v').heap[q]? = w1.heap[q]? := fun q hq => Below.heap_setCell w1 ⟨b.H, j, none⟩ v' q hq
  have hfo : ∀ a, a < n → a ≠ j → QueT 3 w1 B (vs a) (f a) := fun a ha hne => (h.fam a ha).kept hg (h.apart a j ha hj hne)
  have hvne : ∀ q, q < w.heap.size → (vs j).ownBlock ≠ some q → v'.ownBlock ≠ some q := fun q hq hne e => by
    rcases hat with h2 | h2 | ⟨g, h2, h3⟩
    · rw [h2] at e; cases e
    · exact hne (h2.symm.trans e)
    · rw [h2] at e; injection e with e; omega
  have hoth : ∀ a, a < n → a ≠ j → (vs a).ownBlock = none ∨ (vs a).ownBlock ≠ v'.ownBlock := fun a ha hne => by
    cases hb : (vs a).ownBlock with
    | none => exact .inl rfl
    | some g =>
      right
      have hlt := ((h.fam a ha).lt hb).2
      refine fun e => hvne g hlt (fun e2 => ?_) e.symm
      rcases h.apart a j ha hj hne with h3 | h3
      · rw [h3] at hb; cases hb
      · exact h3 (hb.trans e2.symm)
  have hol : OwnL w1 B vl L := ownsG_blk h.ol (fun q e => h1 q (World.ownsRow.lt h.ol q e).2 (fun e2 => hQ.ne_owns h.ol (by decide) e2 e))
  have hoc : OwnC w1 B vc cs := ownsG_blk h.oc (fun q e => h1 q (World.ownsRow.lt h.oc q e).2 (fun e2 => hQ.ne_owns h.oc (by decide) e2 e))
  refine ⟨(kr h.rr (by decide)).block (hk _ (rowG_ne (kr h.rr (by decide)) ht (by decide))), (kr h.ro (by decide)).block (hk _ (rowG_ne (kr h.ro (by decide)) ht (by decide))), (kr h.rp (by decide)).block (hk _ (h.ne.2.1)), hP1.block (hk _ (rowG_ne hP1.row.choose_spec ht (by decide))), (kr h.rb (by decide)).block (hk _ (rowG_ne (kr h.rb (by decide)) ht (by decide))), ?_, (kr h.rh (by decide)).block (hk _ (rowG_ne (kr h.rh (by decide)) ht (by decide))), Row.block (kr h.rA (by decide)) (hk _ (rowG_ne (kr h.rA (by decide)) ht (by decide))), (kr h.ri (by decide)).block (hk _ (rowG_ne (kr h.ri (by decide)) ht (by decide))), Row.block (kr h.rI (by decide)) (hk _ (rowG_ne (kr h.rI (by decide)) ht (by decide))), (kr h.rW (by decide)).block (hk _ (rowG_ne (kr h.rW (by decide)) ht (by decide))), (kr h.rg (by decide)).block (hk _ (rowG_ne (kr h.rg (by decide)) ht (by decide))), fun a ha => ?_, fun a c ha hc hac => ?_, ownsG_blk hol (fun g e => hk g fun e' => owns_ne_row hol ht (by decide) (e' ▸ e)), ownsG_blk hoc (fun g e => hk g fun e' => owns_ne_row hoc ht (by decide) (e' ▸ e)), fun a ha => ?_, h.ne, h.lo⟩
  · have := ht.set j v'
    rw [hdG_set, Nat.zero_add] at this
    exact this
  · by_cases e : a = j
    · subst e
      rw [up1_same, up1_same]
      exact hown.far (hown.ne_row ht (by decide)) _
    · rw [up1_other _ _ e, up1_other _ _ e]
      exact (hfo a ha e).far ((hfo a ha e).ne_row ht (by decide)) _
  · by_cases e : a = j
    · have e2 : c ≠ j := fun e2 => hac (e.trans e2.symm)
      rw [e, up1_same, up1_other _ _ e2]
      cases hv : v'.ownBlock with
      | none => exact .inl rfl
      | some g =>
        right
        intro e3
        rcases hoth c hc e2 with h2 | h2
        · rw [h2] at e3; cases e3
        · exact h2 (e3.symm.trans hv.symm)
    · rw [up1_other _ _ e]
      by_cases e2 : c = j
      · rw [e2, up1_same]; exact hoth a ha e
      · rw [up1_other _ _ e2]; exact h.apart a c ha hc hac
  · by_cases e : a = j
    · subst e
      rw [up1_same]
      exact hvne _ h.rP.lt hqP
    · rw [up1_other _ _ e]; exact h.qn a ha
end

#print axioms RfK.putQ
#print axioms RfK.code
#print axioms RfK.letters
#print axioms RfK.setP_
end Go.Proofs.Ytejckoffllhjcaa
