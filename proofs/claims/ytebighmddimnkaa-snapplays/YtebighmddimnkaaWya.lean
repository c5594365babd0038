/-
  The contract of (*system).way of package snap; words for a [][]int that the call makes.
-/
import Derived.Test.YtebighmddimnkaaDon
import Derived.BigRegion
namespace Go.Proofs.Ytebighmddimnkaa
open Go.RowKit Go.Maps

theorem infoInts : (Try.prog.info? 24).map (fun i => (i.zero, i.size, i.bytes)) = some (some (.slice none 0 0), 1, 24) := by kernel_rfl
/-- The rows' slices, the first m of them laid. -/
def topL (n m : Nat) (rw : Nat → Nat) : List Value := (List.range n).map fun i => if i < m then Value.slice (some ⟨rw i, 0, none⟩) n n else .slice none 0 0
theorem topL_len (n m : Nat) (rw : Nat → Nat) : (topL n m rw).length = n := by simp [topL]
theorem topL_get (n m : Nat) (rw : Nat → Nat) {i : Nat} (hi : i < n) : (topL n m rw)[i]'(by rw [topL_len]; exact hi) = if i < m then Value.slice (some ⟨rw i, 0, none⟩) n n else .slice none 0 0 := by simp [topL]
structure Grd (w : World) (B T n m : Nat) (rw : Nat → Nat) (A : Nat → Nat → Int) : Prop where
  top : Row w T 24 (topL n m rw)
  row : ∀ i, i < n → i < m → IntRow w (rw i) n (A i)
  inj : ∀ i j, i < n → j < n → i < m → j < m → i ≠ j → rw i ≠ rw j
  lowT : B ≤ T
  lowR : ∀ i, i < n → i < m → B ≤ rw i
section
variable {w w' : World} {B T n m : Nat} {rw : Nat → Nat} {A A' : Nat → Nat → Int}
theorem Grd.congr (h : Grd w B T n m rw A) (e : ∀ i j, i < n → j < n → i < m → A i j = A' i j) : Grd w B T n m rw A' :=
  ⟨h.top, fun i hi hm => IntRow.congr (h.row i hi hm) (fun j hj => e i j hi hj hm), h.inj, h.lowT, h.lowR⟩
theorem Grd.blocks (h : Grd w B T n m rw A) (hb : ∀ g, B ≤ g → g < w.heap.size → w'.heap[g]? = w.heap[g]?) : Grd w' B T n m rw A :=
  ⟨h.top.block (hb T h.lowT h.top.lt), fun i hi hm => Row.block (h.row i hi hm) (hb _ (h.lowR i hi hm) (Row.lt (h.row i hi hm))), h.inj, h.lowT, h.lowR⟩
theorem Grd.low (h : Grd w B T n m rw A) {B' : Nat} (hB : B' ≤ B) : Grd w B' T n m rw A := ⟨h.top, h.row, h.inj, Nat.le_trans hB h.lowT, fun i hi hm => Nat.le_trans hB (h.lowR i hi hm)⟩
theorem Grd.alloc (h : Grd w B T n m rw A) (o : Obj) : Grd (w.alloc o) B T n m rw A := h.blocks fun g _ hg => Below.heap_alloc w o g hg
theorem Grd.below (h : Grd w B T n m rw A) (hb : Below w.heap.size w w') : Grd w' B T n m rw A := h.blocks fun g _ hg => hb.block g hg
theorem Grd.grown (h : Grd w B T n m rw A) {r : Nat} (hg : w.grownBy w' (some r)) (hr : ∀ t xs, ¬ Row w r t xs) : Grd w' B T n m rw A :=
  ⟨h.top.grown hg (fun e => by injection e with e; exact hr _ _ (e ▸ h.top)), fun i hi hm => Row.grown (h.row i hi hm) hg (fun e => by injection e with e; exact hr _ _ (e ▸ h.row i hi hm)), h.inj, h.lowT, h.lowR⟩
theorem Grd.slot (h : Grd w B T n m rw A) {i : Nat} (hi : i < n) (hm : i < m) : w.cell? ⟨T, i, none⟩ = some (.slice (some ⟨rw i, 0, none⟩) n n) := by
  rw [h.top.cell (by rw [topL_len]; exact hi), topL_get n m rw hi, if_pos hm]
theorem Grd.slot0 (h : Grd w B T n m rw A) {i : Nat} (hi : i < n) (hm : ¬ i < m) : w.cell? ⟨T, i, none⟩ = some (.slice none 0 0) := by
  rw [h.top.cell (by rw [topL_len]; exact hi), topL_get n m rw hi, if_neg hm]
theorem Grd.put (h : Grd w B T n m rw A) {i j : Nat} (hi : i < n) (hm : i < m) (x : Int) : Grd (w.setCell ⟨rw i, j, none⟩ (.int .i64 x)) B T n m rw (up2 A i j x) := by
  have hr := h.row i hi hm
  refine ⟨h.top.far (h.top.ne hr (by decide)) _, fun a ha hma => ?_, h.inj, h.lowT, h.lowR⟩
  by_cases e : a = i
  · subst e
    refine IntRow.congr (IntRow.put hr j x) (fun b _ => ?_)
    unfold updI up2
    by_cases e2 : b = j
    · rw [if_pos e2, if_pos ⟨rfl, e2⟩]
    · rw [if_neg e2, if_neg (fun e => e2 e.2)]
  · exact IntRow.congr (Row.far (h.row a ha hma) (h.inj a i ha hi hma hm e) _) (fun b _ => (up2_other A x (fun e3 => e e3.1)).symm)
/-- A row is laid. -/
theorem Grd.more (h : Grd w B T n m rw A) (hB : B ≤ w.heap.size) (hm : m < n) (hR : IntRow w' w.heap.size n (A m)) (hg : w.grownBy w' none) : Grd (w'.setCell ⟨T, m, none⟩ (.slice (some ⟨w.heap.size, 0, none⟩) n n)) B T n (m + 1) (up1 rw m w.heap.size) A := by
  have ht := h.top.grown hg (by simp)
  have hl : ∀ i, i < n → i < m → rw i < w.heap.size := fun i hi him => Row.lt (h.row i hi him)
  refine ⟨?_, fun i hi him => ?_, fun i j hi hj him hjm hne => ?_, h.lowT, fun i hi him => ?_⟩
  · have h1 := ht.set m (.slice (some ⟨w.heap.size, 0, none⟩) n n)
    have e : (topL n m rw).set m (.slice (some ⟨w.heap.size, 0, none⟩) n n) = topL n (m + 1) (up1 rw m w.heap.size) := by
      apply List.ext_getElem
      · simp [topL]
      · intro b h1 h2
        have hb : b < n := by rw [topL_len] at h2; exact h2
        rw [List.getElem_set, topL_get n (m + 1) _ hb]
        by_cases e : m = b
        · subst e; rw [if_pos rfl, if_pos (by omega), up1_same]
        · rw [if_neg e, topL_get n m rw hb, up1_other _ _ (fun h => e h.symm)]
          by_cases hbm : b < m
          · rw [if_pos hbm, if_pos (by omega)]
          · rw [if_neg hbm, if_neg (by omega)]
    rw [e] at h1
    exact h1
  · by_cases e : i = m
    · subst e
      rw [up1_same]
      exact Row.far hR (fun e2 => by have := h.top.lt; have e3 : w.heap.size = T := e2; omega) _
    · rw [up1_other _ _ e]
      have := Row.grown (h.row i hi (by omega)) hg (by simp)
      exact Row.far this (fun e2 => (ht.ne this (by decide)) e2.symm) _
  · by_cases e : i = m
    · subst e
      have := hl j hj (by omega)
      rw [up1_same, up1_other _ _ (fun h => hne h.symm)]; omega
    · by_cases e2 : j = m
      · subst e2
        have := hl i hi (by omega)
        rw [up1_same, up1_other _ _ e]; omega
      · rw [up1_other _ _ e, up1_other _ _ e2]
        exact h.inj i j hi hj (by omega) (by omega) hne
  · by_cases e : i = m
    · subst e; rw [up1_same]; exact hB
    · rw [up1_other _ _ e]; exact h.lowR i hi (by omega)
end

open Classical in
noncomputable def wyL (n : Nat) (S : St) (L : Nat → Nat → Bool) : Nat → Nat → Int := fun i j => if Chl n i j ∧ L i j = false then S.wy i j else 0
def WayRel (w : World) (T n m : Nat) (wr : World) : Prop := ∃ rw, Grd wr w.heap.size T n m rw (fun _ _ => 0) ∧ Below w.heap.size w wr
def WayRel2 (w : World) (T n M r : Nat) (rw : Nat → Nat) (ch : Nat → Nat → Nat) (S : St) (wr : World) : Prop :=
  ∃ L, RngP wr M r 100 (chF n ch) L ∧ Grd wr w.heap.size T n n rw (wyL n S L) ∧ w.heap.size ≤ r ∧ Below w.heap.size w wr
def WayRes (w : World) (n : Nat) (S : St) (e : Ending) (w' : World) : Prop := ∃ T rw, e = .returned (.slice (some ⟨T, 0, none⟩) n n) ∧ Grd w' w.heap.size T n n rw S.wy ∧ Below w.heap.size w w'
theorem RngP.no_row {w : World} {M r n : Nat} {f : Nat → Nat → Option Value} {L : Nat → Nat → Bool} (h : RngP w M r n f L) : ∀ t xs, ¬ Row w r t xs := fun _ _ hr => h.ne_row hr rfl

theorem WayRel2.drew {w : World} {T n M r : Nat} {rw : Nat → Nat} {ch : Nat → Nat → Nat} {S : St} {wr : World} (h : WayRel2 w T n M r rw ch S wr) : WayRel2 w T n M r rw ch S wr.drew := by
  obtain ⟨L, h1, h2, h3, h4⟩ := h
  exact ⟨L, h1.block rfl rfl, h2.blocks (fun _ _ _ => rfl), h3, below_drewN h4 1⟩

set_option maxHeartbeats 8000000 in
set_option maxRecDepth 100000 in
theorem way_any (w : World) (B s n P M : Nat) (ch : Nat → Nat → Nat) (S : St) (hS : Sys w B s n P M ch S) (hn : n ≤ 6) (hwd : ∀ i, S.wy i i = 0) :
    Calls Try.prog 18 #[.pointer (some ⟨s, 0, none⟩)] w (WayRes w n S) := by
  obtain ⟨vs, hA⟩ := hS
  obtain ⟨s0, s1⟩ := hA.cells
  have hsl := hA.sys.lt
  have hMl := hA.map.lt
  have hMm := hA.map
  have hchn := Lib.hid (fun i j => hA.chan (i := i) (j := j))
  have hcl := Lib.hid (fun i j h => (hA.chn i j h).lt)
  have hwdH := Lib.hid hwd
  clear hwd hA
  obtain ⟨j0, hi0, hz0, hz1, hz2⟩ := info_parts infoInt
  have hJi := Lib.hid hi0; have hJz := Lib.hid hz0; have hJs := Lib.hid hz1
  have b2 : j0.bytes * n ≤ 281474976710656 := by rw [hz2]; omega
  clear hi0 hz0 hz1 hz2
  obtain ⟨k0, hi0, hz0, hz1, hz2⟩ := info_parts infoInts
  have hKi := Lib.hid hi0; have hKz := Lib.hid hz0; have hKs := Lib.hid hz1
  have b3 : k0.bytes * n ≤ 281474976710656 := by rw [hz2]; omega
  clear hi0 hz0 hz1 hz2
  go_enter Try.func18, Try.ntmps18
  go_wp2_with (first
    | (at_make; refine wpList_make_row _ rfl _ _ 25 rfl 24 k0 (.slice none 0 0) Try.underlying25 hKi.out hKz.out hKs.out rfl .i64 .i64 _ _ n rfl rfl rfl rfl b3 (by unfold maxLen; omega) ?_; intro w1 hR1 hG1
       have hB1 : Below w.heap.size w w1 := (Below.refl w.heap.size w).grown hG1 (Nat.le_refl _) (by simp)
       have hW1 : WayRel w w.heap.size n 0 w1 := ⟨fun _ => 0, ⟨(by
         have e : topL n 0 (fun _ => 0) = List.replicate n (.slice none 0 0) := (by unfold topL; simp [List.map_const'])
         rw [e]; exact hR1), fun i _ h => absurd h (by omega), fun i j _ _ h => absurd h (by omega), Nat.le_refl _, fun i _ h => absurd h (by omega)⟩, hB1⟩
       clear hG1 hR1 hB1))
  go_loopw [15] (fun t wr => ∃ k : Nat, k ≤ n ∧ t = .int .i64 k ∧ WayRel w w.heap.size n k wr) (fun t _ => n - (intOf t).toNat)
  case atStart => exact ⟨0, Nat.zero_le _, rfl, hW1⟩
  case round =>
    clear hW1
    obtain ⟨k, hk, rfl, rw0, hG, hB⟩ := hrel
    by_cases hlt : k < n
    · have hkI : (k : Int) < (n : Int) := by omega
      have t0 := (hB.cell (p := ⟨s, 0, none⟩) hsl).trans s0
      have x0 := hG.slot0 hlt (by omega)
      have xf := hG.top.frozen k
      have hTlt := hG.top.lt
      have hsz := hB.size
      have hGH := Lib.hid hG
      clear hG
      go_wp2_with (first
        | (at_make; refine wpList_make_row _ rfl _ _ 24 rfl 3 j0 (.int .i64 0) Try.underlying24 hJi.out hJz.out hJs.out rfl .i64 .i64 _ _ n rfl rfl rfl rfl b2 (by unfold maxLen; omega) ?_; intro w2 hR2 hG2
           rw [intRow_zero] at hR2
           have x2 := hG2.cell x0 (by simp)
           have xf2 : w2.frozen? ⟨w.heap.size, k, none⟩ = false := (World.frozen?_of_block (hG2.block w.heap.size hTlt (by simp))).trans xf
           have hGn := Lib.hid (hGH.out.more hsz hlt hR2 hG2)
           have hBn : Below w.heap.size w (w2.setCell ⟨w.heap.size, k, none⟩ (.slice (some ⟨wr.heap.size, 0, none⟩) n n)) := (hB.grown hG2 hB.size (by simp)).setCell (p := ⟨w.heap.size, k, none⟩) (Nat.le_refl _) _
           clear hR2 hG2 hB x0 xf t0))
      go_roundw
      case rel => exact ⟨k + 1, by omega, by go_num, _, hGn.out, hBn⟩
      case measure => simp [intOf]; omega
    · have hkn : k = n := by omega
      subst hkn
      have t1 := (hB.cell (p := ⟨s, 1, none⟩) hsl).trans s1
      have hM1 := hMm.block (hB.block M hMl)
      have hsz := hB.size
      go_wp2_with (first
        | (at_range; refine wpList_rangeP rfl _ rfl M 100 (chF k ch) rfl hM1 ?_; intro w2 hR2 hG2 hz2))
      go_frame
      have hB2 : Below w.heap.size w w2 := hB.grown hG2 hB.size (by simp)
      have hrel2 : WayRel2 w w.heap.size k M wr.heap.size rw0 ch S w2 := ⟨_, hR2, (hG.blocks fun g _ hg => hG2.block g hg (by simp)).congr (fun i j _ _ _ => by simp [wyL]), hsz, hB2⟩
      clear hB hR2 hG2 hz2 hM1 t1 hB2 hG
      generalize wr.heap.size = r at *
      go_loopw [6] (fun _ wr => WayRel2 w w.heap.size k M r rw0 ch S wr) (fun _ wr => wr.rangeLeft M r)
      case atStart => exact hrel2
      case round =>
        clear hrel2
        obtain ⟨L, hR, hG, hrl, hB⟩ := hrel
        go_wp2_with (first
          | (at_next; refine wpList_nextP rfl _ rfl M r 100 (chF k ch) L rfl hR ?_ ?_))
        · intro hno
          have hfin : Hid (WayRes w k S (.returned (.slice (some ⟨w.heap.size, 0, none⟩) k k)) wr) := ⟨_, rw0, rfl, hG.congr (fun i j hi hj _ => by
            unfold wyL
            by_cases e : i = j
            · rw [if_neg (fun h => h.1.2.2 e), e, hwdH.out]
            · rw [if_pos ⟨⟨hi, hj, e⟩, hno i j _ (chF_yes ch ⟨hi, hj, e⟩)⟩]), hB⟩
          clear hno
          go_wp2_with fail
          go_ret
          exact hfin.out
        · intro i j v w3 hf hL hR3 hlt3 hG3 hz3 hen
          obtain ⟨hc, rfl⟩ := chF_inv hf
          have hB3 := hB.grown hG3 hB.size (by simp; omega)
          obtain ⟨_, _, c2'⟩ := hchn.out i j hc
          have c2 := (hB3.cell (p := ⟨ch i j, 2, none⟩) (hcl.out i j hc)).trans c2'
          have hcb := hcl.out i j hc
          have hGr3 := hG.grown hG3 hR.no_row
          have hGa := hGr3.alloc (.cells #[.int .i64 (i : Int), .int .i64 (j : Int)] 65)
          have hRa := hR3.alloc (.cells #[.int .i64 (i : Int), .int .i64 (j : Int)] 65)
          have hBa := hB3.alloc hB3.size (.cells #[.int .i64 (i : Int), .int .i64 (j : Int)] 65)
          have c2a := cell_allocV (.cells #[.int .i64 (i : Int), .int .i64 (j : Int)] 65) c2 (by have := hB3.size; simp; omega)
          have y0 := hGa.slot hc.1 hc.1
          have y1 := IntRow.at_ (hGa.row i hc.1 hc.1) hc.2.1
          have yf := Row.frozen (hGa.row i hc.1 hc.1) j
          have hGp := hGa.put (j := j) hc.1 hc.1 (S.wy i j)
          have hBp : Below w.heap.size w ((w3.alloc (.cells #[.int .i64 (i : Int), .int .i64 (j : Int)] 65)).setCell ⟨rw0 i, j, none⟩ (.int .i64 (S.wy i j))) := hBa.setCell (p := ⟨rw0 i, j, none⟩) (hGa.lowR i hc.1 hc.1) _
          have hRp := hRa.far (p := ⟨rw0 i, j, none⟩) (hRa.owns.ne_row (hGa.row i hc.1 hc.1)) (hRa.ne_row (hGa.row i hc.1 hc.1)) (.int .i64 (S.wy i j))
          have hleft : ((w3.alloc (.cells #[.int .i64 (i : Int), .int .i64 (j : Int)] 65)).setCell ⟨rw0 i, j, none⟩ (.int .i64 (S.wy i j))).rangeLeft M r < wr.rangeLeft M r := by
            have e1 : ((w3.alloc (.cells #[.int .i64 (i : Int), .int .i64 (j : Int)] 65)).setCell ⟨rw0 i, j, none⟩ (.int .i64 (S.wy i j))).rangeLeft M r = w3.rangeLeft M r := by
              unfold World.rangeLeft
              rw [Below.heap_setCell _ _ _ M (hRa.owns.ne_row (hGa.row i hc.1 hc.1)), Below.heap_setCell _ _ _ r (hRa.ne_row (hGa.row i hc.1 hc.1)), Below.heap_alloc w3 _ M hR3.owns.lt, Below.heap_alloc w3 _ r hR3.lt]
            rw [e1]; exact hlt3
          have hfin : Hid (WayRel2 w w.heap.size k M r rw0 ch S ((w3.alloc (.cells #[.int .i64 (i : Int), .int .i64 (j : Int)] 65)).setCell ⟨rw0 i, j, none⟩ (.int .i64 (S.wy i j)))) := ⟨_, hRp, hGp.congr (fun a b _ _ _ => by
            unfold wyL
            by_cases e : a = i ∧ b = j
            · obtain ⟨rfl, rfl⟩ := e
              rw [up2_same, if_pos ⟨hc, by simp⟩]
            · rw [up2_other _ _ e]
              have this : (L a b && (!decide (a = i) || !decide (b = j))) = L a b := by
                have : (!decide (a = i) || !decide (b = j)) = true := by simp; omega
                rw [this]; simp
              by_cases hh : Chl k a b ∧ L a b = false
              · rw [if_pos hh, if_pos ⟨hh.1, this.trans hh.2⟩]
              · rw [if_neg hh, if_neg (fun h' => hh ⟨h'.1, this.symm.trans h'.2⟩)]), hrl, hBp⟩
          have hiI : (i : Int) < (k : Int) := by have := hc.1; omega
          have hjI : (j : Int) < (k : Int) := by have := hc.2.1; omega
          clear c2' hf hR hB hG3 c2 hGr3 hGa hRa hBa hGp hBp hRp hR3 hL hG hlt3
          unfold arr2 at hen
          generalize S.wy i j = wy at *
          generalize ch i j = cb at *
          generalize rw0 i = rb at *
          go_wp2_with fail
          go_region
          go_wp2_with fail
          go_roundw
          case rel => exact hfin.out.drew
          case measure => exact hleft

#print axioms way_any
end Go.Proofs.Ytebighmddimnkaa
