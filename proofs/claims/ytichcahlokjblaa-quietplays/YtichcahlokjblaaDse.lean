/-
  What beaconryref.Quiet holds; the contract of its closure that settles.
-/
import Derived.Test.YtichcahlokjblaaDkr
import Derived.Deep.LoopGhost
namespace Go.Proofs.Ytichcahlokjblaa
open Go.RowKit Go.Maps
set_option linter.unusedVariables false

/-- Codes that the call has made and lengthens. -/
def codD (cs : List Int) : List Value := cs.map (Value.int .i64)
def OwnK (w : World) (B : Nat) (v : Value) (cs : List Int) : Prop := w.ownsRow B 27 1 v cs.length (codD cs)
/-- Where the variables and the rows lie. -/
structure QB where
  bn : Nat
  br : Nat
  bw : Nat
  W : Nat
  ba : Nat
  bo : Nat
  bb : Nat
  bt : Nat
def owedF (ba : Nat) : Value := .func (.func 16) #[] #[.pointer (some ⟨ba, 0, none⟩)]
def boundF (ba : Nat) : Value := .func (.func 17) #[] #[.pointer (some ⟨ba, 0, none⟩)]
structure RfQ (w : World) (B n : Nat) (b : QB) (act : Nat → Bool) (va : Value) (L : List Ml) (vc : Value) (cs : List Int) (R : List Value) : Prop where
  rn : Row w b.bn 3 [.int .i64 (n : Int)]
  rr : Row w b.br 26 [.slice none 0 0, .bool false, .int .u32 0, .int .i64 0]
  rw : Row w b.bw 44 [.slice (some ⟨b.W, 0, none⟩) n n]
  rW : BRowD w b.W n act
  ra : Row w b.ba 45 [va]
  oa : OwnD w B va L
  ro : Row w b.bo 48 [owedF b.ba]
  rb : Row w b.bb 48 [boundF b.ba]
  rt : Row w b.bt 26 (vc :: R)
  oc : OwnK w B vc cs
  ne : b.br ≠ b.bt
  lo : B ≤ b.bn ∧ B ≤ b.br ∧ B ≤ b.bw ∧ B ≤ b.W ∧ B ≤ b.ba ∧ B ≤ b.bo ∧ B ≤ b.bb ∧ B ≤ b.bt
section
variable {w w' w1 : World} {B n : Nat} {b : QB} {act act' : Nat → Bool} {va : Value} {L : List Ml} {vc : Value} {cs : List Int} {R : List Value}
theorem RfQ.blocks (h : RfQ w B n b act va L vc cs R) (hk : ∀ g, B ≤ g → g < w.heap.size → w'.heap[g]? = w.heap[g]?) : RfQ w' B n b act va L vc cs R := by
  obtain ⟨l1, l2, l3, l4, l5, l6, l7, l8⟩ := h.lo
  exact ⟨h.rn.block (hk _ l1 h.rn.lt), h.rr.block (hk _ l2 h.rr.lt), h.rw.block (hk _ l3 h.rw.lt), Row.block h.rW (hk _ l4 (Row.lt h.rW)), h.ra.block (hk _ l5 h.ra.lt), ownsD_blk h.oa (fun g e => hk g (World.ownsRow.lt h.oa g e).1 (World.ownsRow.lt h.oa g e).2),
    h.ro.block (hk _ l6 h.ro.lt), h.rb.block (hk _ l7 h.rb.lt), h.rt.block (hk _ l8 h.rt.lt), ownsD_blk h.oc (fun g e => hk g (World.ownsRow.lt h.oc g e).1 (World.ownsRow.lt h.oc g e).2), h.ne, h.lo⟩
theorem RfQ.alloc (h : RfQ w B n b act va L vc cs R) (o : Obj) : RfQ (w.alloc o) B n b act va L vc cs R := h.blocks fun g _ hg => Below.heap_alloc w o g hg
theorem RfQ.below (h : RfQ w B n b act va L vc cs R) (hb : Below w.heap.size w w') : RfQ w' B n b act va L vc cs R := h.blocks fun g _ hg => hb.block g hg
theorem RfQ.drewN (h : RfQ w B n b act va L vc cs R) (k : Nat) : RfQ (w.drewN k) B n b act va L vc cs R := h.blocks fun _ _ _ => rfl
theorem RfQ.drew (h : RfQ w B n b act va L vc cs R) : RfQ w.drew B n b act va L vc cs R := h.blocks fun _ _ _ => rfl
theorem RfQ.sz (h : RfQ w B n b act va L vc cs R) : B ≤ w.heap.size := Nat.le_of_lt (Nat.lt_of_le_of_lt h.lo.1 h.rn.lt)
theorem RfQ.congr (h : RfQ w B n b act va L vc cs R) (e : ∀ j, j < n → act j = act' j) : RfQ w B n b act' va L vc cs R := { h with rW := BRowD.congr h.rW e }
/-- The variables' cells. -/
theorem RfQ.vars (h : RfQ w B n b act va L vc cs R) : w.cell? ⟨b.bn, 0, none⟩ = some (.int .i64 (n : Int)) ∧ w.cell? ⟨b.bw, 0, none⟩ = some (.slice (some ⟨b.W, 0, none⟩) n n) ∧ w.cell? ⟨b.ba, 0, none⟩ = some va ∧ w.cell? ⟨b.bo, 0, none⟩ = some (owedF b.ba) ∧ w.cell? ⟨b.bb, 0, none⟩ = some (boundF b.ba) :=
  ⟨h.rn.cell (by simp), h.rw.cell (by simp), h.ra.cell (by simp), h.ro.cell (by simp), h.rb.cell (by simp)⟩
/-- One works, or works no more. -/
theorem RfQ.setW (h : RfQ w B n b act va L vc cs R) (i : Nat) (v : Bool) : RfQ (w.setCell ⟨b.W, i, none⟩ (.bool v)) B n b (up1 act i v) va L vc cs R := by
  have hr := h.rW
  have hs : ∀ g, g ≠ b.W → (w.setCell ⟨b.W, i, none⟩ (.bool v)).heap[g]? = w.heap[g]? := fun g hg => Below.heap_setCell w ⟨b.W, i, none⟩ _ g hg
  exact ⟨h.rn.block (hs _ (rowD_ne h.rn hr (by decide))), h.rr.block (hs _ (rowD_ne h.rr hr (by decide))), h.rw.block (hs _ (rowD_ne h.rw hr (by decide))), BRowD.put hr i v, h.ra.block (hs _ (rowD_ne h.ra hr (by decide))), ownsD_blk h.oa (fun g e => hs g fun e' => owns_ne_row h.oa hr (by decide) (e' ▸ e)),
    h.ro.block (hs _ (rowD_ne h.ro hr (by decide))), h.rb.block (hs _ (rowD_ne h.rb hr (by decide))), h.rt.block (hs _ (rowD_ne h.rt hr (by decide))), ownsD_blk h.oc (fun g e => hs g fun e' => owns_ne_row h.oc hr (by decide) (e' ▸ e)), h.ne, h.lo⟩
/-- A message is of another state. -/
theorem RfQ.setM {g cap : Nat} (h : RfQ w B n b act (.slice (some ⟨g, 0, none⟩) L.length cap) L vc cs R) {k : Nat} (hk : k < L.length) (x : Nat) : RfQ (w.setCell ⟨g, k * 3 + 2, none⟩ (.int .i64 (x : Int))) B n b act (.slice (some ⟨g, 0, none⟩) L.length cap) (setS L k x) vc cs R := by
  have hs : ∀ q, q ≠ g → (w.setCell ⟨g, k * 3 + 2, none⟩ (.int .i64 (x : Int))).heap[q]? = w.heap[q]? := fun q hq => Below.heap_setCell w ⟨g, k * 3 + 2, none⟩ _ q hq
  have hr : ∀ {q : Nat} {t : TypeId} {xs : List Value}, Row w q t xs → 47 ≠ t → q ≠ g := fun hq ht e => owns_ne_row h.oa hq ht (by rw [e]; rfl)
  exact ⟨h.rn.block (hs _ (hr h.rn (by decide))), h.rr.block (hs _ (hr h.rr (by decide))), h.rw.block (hs _ (hr h.rw (by decide))), Row.block h.rW (hs _ (hr h.rW (by decide))), h.ra.block (hs _ (hr h.ra (by decide))), OwnD.store h.oa hk x,
    h.ro.block (hs _ (hr h.ro (by decide))), h.rb.block (hs _ (hr h.rb (by decide))), h.rt.block (hs _ (hr h.rt (by decide))), ownsD_blk h.oc (fun q e => hs q fun e' => ownsD_ne h.oc h.oa (by decide) e (by rw [e']; rfl)), h.ne, h.lo⟩
theorem RfQ.mail {g cap : Nat} (h : RfQ w B n b act (.slice (some ⟨g, 0, none⟩) L.length cap) L vc cs R) : B ≤ g ∧ g < w.heap.size := World.ownsRow.lt h.oa g rfl
/-- The messages are another list, one more. -/
theorem RfQ.push (h : RfQ w B n b act va L vc cs R) {va' : Value} {L' : List Ml} (hown : OwnD w1 B va' L') (hg : w.grownBy w1 va.ownBlock) : RfQ (w1.setCell ⟨b.ba, 0, none⟩ va') B n b act va' L' vc cs R := by
  have h1 : ∀ q, q < w.heap.size → va.ownBlock ≠ some q → w1.heap[q]? = w.heap[q]? := fun q hq hne => hg.block q hq fun e => hne e.symm
  have hr : ∀ {q : Nat} {t : TypeId} {xs : List Value}, Row w q t xs → 47 ≠ t → Row w1 q t xs := fun {q t xs} hq ht => hq.block (h1 q hq.lt (owns_ne_row h.oa hq ht))
  have ha := hr h.ra (by decide)
  have hs : ∀ q, q ≠ b.ba → (w1.setCell ⟨b.ba, 0, none⟩ va').heap[q]? = w1.heap[q]? := fun q hq => Below.heap_setCell w1 ⟨b.ba, 0, none⟩ va' q hq
  have hc : OwnK w1 B vc cs := ownsD_blk h.oc (fun q e => h1 q (World.ownsRow.lt h.oc q e).2 (ownsD_ne h.oc h.oa (by decide) e))
  have k1 := hr h.rn (by decide)
  have k2 := hr h.rr (by decide)
  have k3 := hr h.rw (by decide)
  have k4 := hr h.rW (by decide)
  have k5 := hr h.ro (by decide)
  have k6 := hr h.rb (by decide)
  have k7 := hr h.rt (by decide)
  exact ⟨k1.block (hs _ (rowD_ne k1 ha (by decide))), k2.block (hs _ (rowD_ne k2 ha (by decide))), k3.block (hs _ (rowD_ne k3 ha (by decide))), k4.block (hs _ (rowD_ne k4 ha (by decide))), ha.set 0 va', ownsD_blk hown (fun q e => hs q fun e' => owns_ne_row hown ha (by decide) (e' ▸ e)),
    k5.block (hs _ (rowD_ne k5 ha (by decide))), k6.block (hs _ (rowD_ne k6 ha (by decide))), k7.block (hs _ (rowD_ne k7 ha (by decide))), ownsD_blk hc (fun q e => hs q fun e' => owns_ne_row hc ha (by decide) (e' ▸ e)), h.ne, h.lo⟩
/-- One code more. -/
theorem RfQ.code (h : RfQ w B n b act va L vc cs R) {vc' : Value} {cs' : List Int} (hown : OwnK w1 B vc' cs') (hg : w.grownBy w1 vc.ownBlock) : RfQ (w1.setCell ⟨b.bt, 0, none⟩ vc') B n b act va L vc' cs' R := by
  have h1 : ∀ q, q < w.heap.size → vc.ownBlock ≠ some q → w1.heap[q]? = w.heap[q]? := fun q hq hne => hg.block q hq fun e => hne e.symm
  have hr : ∀ {q : Nat} {t : TypeId} {xs : List Value}, Row w q t xs → 27 ≠ t → Row w1 q t xs := fun {q t xs} hq ht => hq.block (h1 q hq.lt (owns_ne_row h.oc hq ht))
  have ha := hr h.rt (by decide)
  have hs : ∀ q, q ≠ b.bt → (w1.setCell ⟨b.bt, 0, none⟩ vc').heap[q]? = w1.heap[q]? := fun q hq => Below.heap_setCell w1 ⟨b.bt, 0, none⟩ vc' q hq
  have hc : OwnD w1 B va L := ownsD_blk h.oa (fun q e => h1 q (World.ownsRow.lt h.oa q e).2 (ownsD_ne h.oa h.oc (by decide) e))
  have k1 := hr h.rn (by decide)
  have k2 := hr h.rr (by decide)
  have k3 := hr h.rw (by decide)
  have k4 := hr h.rW (by decide)
  have k5 := hr h.ro (by decide)
  have k6 := hr h.rb (by decide)
  have k7 := hr h.ra (by decide)
  exact ⟨k1.block (hs _ (rowD_ne k1 ha (by decide))), k2.block (hs _ h.ne), k3.block (hs _ (rowD_ne k3 ha (by decide))), k4.block (hs _ (rowD_ne k4 ha (by decide))), k7.block (hs _ (rowD_ne k7 ha (by decide))), ownsD_blk hc (fun q e => hs q fun e' => owns_ne_row hc ha (by decide) (e' ▸ e)),
    k5.block (hs _ (rowD_ne k5 ha (by decide))), k6.block (hs _ (rowD_ne k6 ha (by decide))), ha.set 0 vc', ownsD_blk hown (fun q e => hs q fun e' => owns_ne_row hown ha (by decide) (e' ▸ e)), h.ne, h.lo⟩
/-- A store into what is to be returned, behind the codes. -/
theorem RfQ.setR (h : RfQ w B n b act va L vc cs R) (j : Nat) (v : Value) : RfQ (w.setCell ⟨b.bt, j + 1, none⟩ v) B n b act va L vc cs (R.set j v) := by
  have ha := h.rt
  have hs : ∀ q, q ≠ b.bt → (w.setCell ⟨b.bt, j + 1, none⟩ v).heap[q]? = w.heap[q]? := fun q hq => Below.heap_setCell w ⟨b.bt, j + 1, none⟩ v q hq
  exact ⟨h.rn.block (hs _ (rowD_ne h.rn ha (by decide))), h.rr.block (hs _ h.ne), h.rw.block (hs _ (rowD_ne h.rw ha (by decide))), Row.block h.rW (hs _ (rowD_ne h.rW ha (by decide))), h.ra.block (hs _ (rowD_ne h.ra ha (by decide))), ownsD_blk h.oa (fun q e => hs q fun e' => owns_ne_row h.oa ha (by decide) (e' ▸ e)),
    h.ro.block (hs _ (rowD_ne h.ro ha (by decide))), h.rb.block (hs _ (rowD_ne h.rb ha (by decide))), ha.set (j + 1) v, ownsD_blk h.oc (fun q e => hs q fun e' => owns_ne_row h.oc ha (by decide) (e' ▸ e)), h.ne, h.lo⟩
/-- The codes, as a slice that is read. -/
theorem OwnK.shape {v : Value} (h : OwnK w B v cs) : ∃ A cap, v = .slice A cs.length cap ∧ cs.length ≤ cap ∧ cap ≤ maxLen ∧ Nums w w.heap.size A cs := by
  have hlt := World.ownsRow.lt h
  rcases h.2 with ⟨h7, h8⟩ | ⟨g, cap, cur, hv, hb', hg', hc1, hc2, hc3, hc4⟩
  · exact ⟨none, 0, by rw [h7, h8], by omega, by unfold maxLen; omega, fun h0 => by omega⟩
  · refine ⟨_, cap, hv, hc1, hc2, fun _ => ⟨g, 0, rfl, (hlt g (by rw [hv]; rfl)).2, fun i hi => ?_⟩⟩
    rw [Nat.zero_add, cell_of_row w g i cur 27 (0, 0) hg']
    rw [Nat.mul_one] at hc4
    have : (codD cs)[i]? = some (.int .i64 cs[i]) := by simp [codD, hi]
    rw [← hc4, List.getElem?_take_of_lt hi, Array.getElem?_toList] at this
    exact this
theorem OwnK.push {g cap : Nat} {c : Int} (h : w.ownsRow B 27 1 (.slice (some ⟨g, 0, none⟩) (cs.length + 1) cap) (cs.length + 1) (codD cs ++ [.int .i64 c])) : OwnK w B (.slice (some ⟨g, 0, none⟩) (cs.length + 1) cap) (cs ++ [c]) := by
  have e : codD (cs ++ [c]) = codD cs ++ [.int .i64 c] := by simp [codD]
  unfold OwnK
  rw [e, List.length_append]
  exact h
end

/-- Among the first: nobody can be let go. -/
def Calm (S : QS) (E : Nat → Bool) (L : List Ml) (m : Nat) : Prop := ∀ i, 0 < i → i < m → E i = true → S.act i = true ∨ owed L i ≠ 0
def SeRel (w : World) (B n : Nat) (b : QB) (S T : QS) (va : Value) (len : Nat) (vc : Value) (cs : List Int) (R : List Value) (gk : Nat) (v : Value) (wr : World) : Prop :=
  ∃ E L mb, v = .bool mb ∧ L.length = len ∧ Half n S T E L ∧ RfQ wr B n b S.act va L vc cs R ∧ Below B w wr ∧ (mb = false → Calm S E L n) ∧ (mb = true → cntB n E + 1 ≤ gk)
def SiRel (w : World) (B n : Nat) (b : QB) (S T : QS) (va : Value) (len : Nat) (vc : Value) (cs : List Int) (R : List Value) (gk i : Nat) (v : Value) (wr : World) : Prop :=
  ∃ E L mb, v = .bool mb ∧ L.length = len ∧ Half n S T E L ∧ RfQ wr B n b S.act va L vc cs R ∧ Below B w wr ∧ (mb = false → Calm S E L i) ∧ (mb = true → cntB n E + 1 ≤ gk - 1) ∧ cntB n E ≤ gk - 1
def SeRes (w : World) (B n : Nat) (b : QB) (S T : QS) (va : Value) (len : Nat) (vc : Value) (cs : List Int) (R : List Value) (e : Ending) (w' : World) : Prop :=
  e = .returned (.tuple #[]) ∧ ∃ L', L'.length = len ∧ RelM n T L' ∧ RfQ w' B n b S.act va L' vc cs R ∧ Below B w w'

set_option maxHeartbeats 4000000 in
theorem settle_any (w : World) (B n : Nat) (b : QB) (dep : Nat → Nat) (S T : QS) (va : Value) (L : List Ml) (vc : Value) (cs : List Int) (R : List Value) (h : RfQ w B n b S.act va L vc cs R) (hR : RelM n S L) (hT : RelTo n dep S T) (hE : ∀ j, S.eng j = true → j < n) (hn : n ≤ 6) (h0 : 0 < n) (hl : L.length ≤ 1000) :
    Calls Try.prog 18 #[.pointer (some ⟨b.bn, 0, none⟩), .pointer (some ⟨b.bb, 0, none⟩), .pointer (some ⟨b.bw, 0, none⟩), .pointer (some ⟨b.bo, 0, none⟩), .pointer (some ⟨b.ba, 0, none⟩)] w (SeRes w B n b S T va L.length vc cs R) := by
  have hst : Hid (SeRel w B n b S T va L.length vc cs R (n + 1) (.bool true) w) := ⟨S.eng, L, true, rfl, rfl, Half.start hR hT, h, Below.refl _ _, fun h => (by cases h), fun _ => by have := cntB_le n S.eng; omega⟩
  have hTH := Lib.hid hT
  have hEH := Lib.hid hE
  have hlo := Lib.hid h.lo
  have hnI : (1 : Int) ≤ (n : Int) := by omega
  clear h hR hT hE
  generalize hlen : L.length = len at *
  clear hlen L
  go_enter Try.func18, Try.ntmps18
  go_wp2_with fail
  go_loopg [5, 6, 7] (n + 1) (fun gk v _ _ wr => SeRel w B n b S T va len vc cs R gk v wr)
  case atStart => exact hst.out
  case round =>
    clear hst
    obtain ⟨E, L, mb, rfl, hlen, hH, hM, hB, hcalm, hcnt⟩ := hrel
    cases mb with
    | false =>
      have hres : Hid (SeRes w B n b S T va len vc cs R (.returned (.tuple #[])) wr) := ⟨rfl, L, hlen, hH.done hTH.out (hcalm rfl) hEH.out, hM, hB⟩
      clear hlen hH hM hB hcalm hcnt
      go_wp2_with fail
      go_end0
      exact hres.out
    | true =>
      have hc := hcnt rfl
      have hin : Hid (SiRel w B n b S T va len vc cs R gk 1 (.bool false) wr) := ⟨E, L, false, rfl, hlen, hH, hM, hB, fun _ i h1 h2 => absurd h2 (by omega), fun h => (by cases h), by omega⟩
      have hg1 : 1 ≤ gk := by omega
      clear hlen hH hM hB hcalm hcnt hc
      rename World => wa
      go_wp2_with fail
      go_loopw [6, 5, 7] (fun t v _ wr => ∃ i : Nat, 1 ≤ i ∧ i ≤ n ∧ t = .int .i64 i ∧ SiRel w B n b S T va len vc cs R gk i v wr) (fun t _ _ _ => n - (intOf t).toNat)
      case atStart => exact ⟨1, Nat.le_refl _, h0, rfl, hin.out⟩
      case round =>
        clear hin
        obtain ⟨i, hi1, hin, rfl, E, L, mb, rfl, hlen, hH, hM, hB, hcalm, hcnt, hcle⟩ := hrel
        obtain ⟨c0, c1, c2, c3, c4⟩ := hM.vars
        by_cases hlt : i < n
        · have hiI : (i : Int) < (n : Int) := by omega
          have hi0 : i ≠ 0 := by omega
          obtain ⟨A, cap, hva, hl1, hl2, hA⟩ := hM.oa.shape
          rw [hva] at c2
          obtain ⟨r, hr⟩ := bnd_some L i
          have hbnd := Lib.hid (bound_any wr b.ba A cap L i r hr hM.ra.lt c2 hA (by omega))
          have hkeep := Lib.hid (fun hno => hH.keep hi0 hr hno)
          have hrH := Lib.hid hr
          have hHH := Lib.hid hH
          have hMH := Lib.hid hM
          have hBH := Lib.hid hB
          have hcalmH := Lib.hid hcalm
          have hcntH := Lib.hid hcnt
          have hvaH := Lib.hid hva
          have hlenH := Lib.hid hlen
          clear hr hH hM hB hcalm hcnt hA hva hlen hl1 hl2 c2
          unfold boundF at c4
          go_wp2_with fail
          refine hbnd.out.mono ?_
          rintro e w3 ⟨rfl, hB3⟩
          have hM3 := Lib.hid (hMH.out.below hB3)
          have hBw3 := Lib.hid (hBH.out.trans (hB3.mono hMH.out.sz))
          clear hbnd hB3 hMH hBH c0 c1 c3 c4
          obtain ⟨c0, c1, c2, c3, c4⟩ := hM3.out.vars
          have a1 := BRowD.at_ hM3.out.rW hlt
          -- what stays as it was
          have hsame : Hid (¬ (0 ≤ r ∧ S.act i = false ∧ owed L i = 0) → ∀ w4, Below w3.heap.size w3 w4 → SiRel w B n b S T va len vc cs R gk (i + 1) (.bool mb) w4) := fun hno w4 h4 =>
            ⟨E, L, mb, rfl, hlenH.out, hHH.out, hM3.out.below h4, hBw3.out.trans (h4.mono hM3.out.sz), fun hf j hj1 hj2 hjE => by
              by_cases e : j = i
              · subst e; exact hkeep.out hno hjE
              · exact hcalmH.out hf j hj1 (by omega) hjE, hcntH.out, hcle⟩
          by_cases hr0 : 0 ≤ r
          · obtain ⟨k, hrk, hk, hk1, hk2⟩ : ∃ k : Nat, r = (k : Int) ∧ k < L.length ∧ (ml L k).t = i ∧ (ml L k).s = 1 := by
              rcases hrH.out with ⟨k, h1, h2, h3, _⟩ | ⟨h1, _⟩
              · exact ⟨k, h1, h2, (engB_iff _ _).1 h3⟩
              · omega
            subst hrk
            cases ha : S.act i with
            | true =>
              rw [ha] at a1
              have hnx := Lib.hid (hsame.out (fun h => by rw [ha] at h; cases h.2.1) w3 (Below.refl _ _))
              clear hsame hkeep hrH hk1 hk2
              go_wp2_with fail
              go_roundw
              case rel => exact ⟨i + 1, by omega, by omega, by go_num, hnx.out⟩
              case measure => simp [intOf]; omega
            | false =>
              rw [ha] at a1
              obtain ⟨A', cap', hva', hl1', hl2', hA'⟩ := hM3.out.oa.shape
              rw [hva'] at c2
              have howed := Lib.hid (owed_any w3 b.ba A' cap' L i hM3.out.ra.lt c2 hA' (by have := hlenH.out; omega))
              obtain ⟨g, rfl, _⟩ := hA' k hk
              have hvaH' := Lib.hid hva'
              unfold owedF at c3
              by_cases ho : owed L i = 0
              · have hstep := Lib.hid (hHH.out.step hTH.out hi0 hk hk1 hk2 ha ho)
                rw [ho] at howed
                have hoH := Lib.hid ho
                have hkI : (k : Int) < (L.length : Int) := by omega
                have hll := Lib.hid hl1'
                clear hsame hkeep hrH hk1 hk2 hA' hva' ha ho hl1'
                go_wp2_with fail
                refine howed.out.mono ?_
                rintro e w5 ⟨rfl, hB5⟩
                have hM5 := hM3.out.below hB5
                rw [hvaH'.out] at hM5
                have hM5H := Lib.hid hM5
                obtain ⟨d0, d1, d2, d3, d4⟩ := hM5.vars
                obtain ⟨A5, cap5, hv5, -, -, hA5⟩ := hM5.oa.shape
                injection hv5 with e5 e6 e7
                subst e5
                obtain ⟨g', e8, hg', y0, y1, y2, y3⟩ := hA5 k hk
                injection e8 with e8
                injection e8 with e8
                subst e8
                have hM6 := Lib.hid (hM5.setM hk 2)
                have hB6 := Lib.hid ((hBw3.out.trans (hB5.mono hM3.out.sz)).setCell (p := ⟨g, k * 3 + 2, none⟩) hM5.mail.1 (.int .i64 2))
                have hnx : Hid (SiRel w B n b S T va len vc cs R gk (i + 1) (.bool true) (w5.setCell ⟨g, k * 3 + 2, none⟩ (.int .i64 2))) := ⟨up1 E i false, setS L k 2, true, rfl, by rw [setS_len]; exact hlenH.out, hstep.out.1, by
                  have := hM6.out
                  rw [← hvaH'.out] at this
                  exact this, hB6.out, fun h => (by cases h), fun _ => by
                  have := cntB_off (n := n) hlt hstep.out.2
                  omega, by
                  have := cntB_off (n := n) hlt hstep.out.2
                  omega⟩
                clear hM5 hM5H hM6 hB6 hstep hA5 hB5 howed d0 d1 d3 d4 y0 y1 e6 e7 c0 c1 c2 c3 c4
                go_wp2_with fail
                go_roundw
                case rel => exact ⟨i + 1, by omega, by omega, by go_num, hnx.out⟩
                case measure => simp [intOf]; omega
              · have hof : ((owed L i : Int) == 0) = false := by simpa using ho
                have hsm := Lib.hid (hsame.out (fun h => ho h.2.2))
                clear hsame hkeep hrH hk1 hk2 hA' hva' ha
                generalize owed L i = o at *
                go_wp2_with fail
                refine howed.out.mono ?_
                rintro e w5 ⟨rfl, hB5⟩
                have hnx := Lib.hid (hsm.out w5 hB5)
                clear hB5 howed hsm
                go_wp2_with fail
                go_roundw
                case rel => exact ⟨i + 1, by omega, by omega, by go_num, hnx.out⟩
                case measure => simp [intOf]; omega
          · have hnx := Lib.hid (hsame.out (fun h => hr0 h.1) w3 (Below.refl _ _))
            have hrI : r < 0 := by omega
            clear hsame hkeep hrH hr0
            go_wp2_with fail
            go_roundw
            case rel => exact ⟨i + 1, by omega, by omega, by go_num, hnx.out⟩
            case measure => simp [intOf]; omega
        · have hin' : i = n := by omega
          subst hin'
          have hnx : Hid (SeRel w B i b S T va len vc cs R (gk - 1) (.bool mb) wr) := ⟨E, L, mb, rfl, hlen, hH, hM, hB, hcalm, hcnt⟩
          clear hlen hH hM hB hcalm hcnt
          go_wp2_with fail
          go_roundg (gk - 1)
          case measure => omega
          case rel => exact hnx.out

#print axioms settle_any
end Go.Proofs.Ytichcahlokjblaa
