/-
  What beaconryref.Echo holds; the contract of its closure.
-/
import Derived.Test.YtjmkmfeibempjaaNer
import Derived.Test.YtjmkmfeibempjaaWot
import Derived.Test.YtjmkmfeibempjaaCdw
import Derived.BigRegion
namespace Go.Proofs.Ytjmkmfeibempjaa
open Go.RowKit Go.Maps
set_option linter.unusedVariables false

def ltr (l : List (Nat × Nat)) : List Lt := l.map fun m => ⟨(m.1 : Int), (m.2 : Int), 0⟩
theorem ltr_len (l : List (Nat × Nat)) : (ltr l).length = l.length := by simp [ltr]
theorem ltr_snoc (l : List (Nat × Nat)) (i j : Nat) : ltr (l ++ [(i, j)]) = ltr l ++ [⟨(i : Int), (j : Int), 0⟩] := by simp [ltr]
theorem ltr_cut (l : List (Nat × Nat)) (k : Nat) : ltr (l.take k ++ l.drop (k + 1)) = (ltr l).take k ++ (ltr l).drop (k + 1) := by simp [ltr, List.map_take, List.map_drop]
theorem ltr_at {l : List (Nat × Nat)} {k : Nat} (h : k < l.length) : lt_ (ltr l) k = ⟨(l[k].1 : Int), (l[k].2 : Int), 0⟩ := by simp [lt_, ltr, h]
/-- Codes that the call has made and lengthens. -/
def codV (cs : List Int) : List Value := cs.map (Value.int .i64)
def OwnC (w : World) (B : Nat) (v : Value) (cs : List Int) : Prop := w.ownsRow B 27 1 v cs.length (codV cs)

structure EM (w : World) (B n O F Y K : Nat) (S : ES) (cs : List Int) (cv wv : Value) : Prop where
  out : Row w O 26 [cv, .slice (some ⟨F, 0, none⟩) n n, .bool false, .int .i64 (S.sent : Int)]
  frm : IntRow w F n S.par
  vw : Row w Y 52 [wv]
  tok : IntRow w K n (fun i => (S.took i : Int))
  let_ : OwnL w B wv (ltr S.way)
  cod : OwnC w B cv cs
  ne : F ≠ K
  lowO : B ≤ O
  lowF : B ≤ F
  lowY : B ≤ Y
  lowK : B ≤ K
section
variable {w w' w1 : World} {B n O F Y K : Nat} {S T : ES} {cs : List Int} {cv wv : Value}
theorem EM.blocks (h : EM w B n O F Y K S cs cv wv) (hb : ∀ g, B ≤ g → g < w.heap.size → w'.heap[g]? = w.heap[g]?) : EM w' B n O F Y K S cs cv wv :=
  ⟨h.out.block (hb O h.lowO h.out.lt), Row.block h.frm (hb F h.lowF (Row.lt h.frm)), h.vw.block (hb Y h.lowY h.vw.lt), Row.block h.tok (hb K h.lowK (Row.lt h.tok)),
    owns_blk h.let_ fun g e => hb g (World.ownsRow.lt h.let_ g e).1 (World.ownsRow.lt h.let_ g e).2, owns_blk h.cod fun g e => hb g (World.ownsRow.lt h.cod g e).1 (World.ownsRow.lt h.cod g e).2, h.ne, h.lowO, h.lowF, h.lowY, h.lowK⟩
theorem EM.alloc (h : EM w B n O F Y K S cs cv wv) (o : Obj) : EM (w.alloc o) B n O F Y K S cs cv wv := h.blocks fun g _ hg => Below.heap_alloc w o g hg
theorem EM.below (h : EM w B n O F Y K S cs cv wv) (hb : Below w.heap.size w w') : EM w' B n O F Y K S cs cv wv := h.blocks fun g _ hg => hb.block g hg
theorem EM.drew (h : EM w B n O F Y K S cs cv wv) : EM w.drew B n O F Y K S cs cv wv := h.blocks fun _ _ _ => rfl
theorem EM.sz (h : EM w B n O F Y K S cs cv wv) : B ≤ w.heap.size := Nat.le_of_lt (Nat.lt_of_le_of_lt h.lowO h.out.lt)
theorem EM.outs (h : EM w B n O F Y K S cs cv wv) : w.cell? ⟨O, 0, none⟩ = some cv ∧ w.cell? ⟨O, 1, none⟩ = some (.slice (some ⟨F, 0, none⟩) n n) ∧ w.cell? ⟨O, 2, none⟩ = some (.bool false) ∧ w.cell? ⟨O, 3, none⟩ = some (.int .i64 (S.sent : Int)) :=
  ⟨h.out.cell (by simp), h.out.cell (i := 1) (by simp), h.out.cell (i := 2) (by simp), h.out.cell (i := 3) (by simp)⟩
theorem EM.var (h : EM w B n O F Y K S cs cv wv) : w.cell? ⟨Y, 0, none⟩ = some wv := h.vw.cell (by simp)
/-- Stores into one of its rows. -/
theorem EM.setO (h : EM w B n O F Y K S cs cv wv) (k : Nat) (v : Value) (cv' : Value) (cs' : List Int) (m : Nat) (hr : Row (w.setCell ⟨O, k, none⟩ v) O 26 [cv', .slice (some ⟨F, 0, none⟩) n n, .bool false, .int .i64 (m : Int)]) (hc : OwnC w B cv' cs') : EM (w.setCell ⟨O, k, none⟩ v) B n O F Y K ⟨S.took, S.par, S.way, m⟩ cs' cv' wv := by
  have hset : ∀ g, g ≠ O → (w.setCell ⟨O, k, none⟩ v).heap[g]? = w.heap[g]? := fun g hg => Below.heap_setCell w ⟨O, k, none⟩ v g hg
  exact ⟨hr, Row.block h.frm (hset F (row_ne h.frm h.out (by decide))), h.vw.block (hset Y (row_ne h.vw h.out (by decide))), Row.block h.tok (hset K (row_ne h.tok h.out (by decide))), owns_blk h.let_ fun g e => hset g fun e' => owns_ne_row h.let_ h.out (by decide) (e' ▸ e), owns_blk hc fun g e => hset g fun e' => owns_ne_row hc h.out (by decide) (e' ▸ e), h.ne, h.lowO, h.lowF, h.lowY, h.lowK⟩
theorem EM.setSent (h : EM w B n O F Y K S cs cv wv) (m : Nat) : EM (w.setCell ⟨O, 3, none⟩ (.int .i64 (m : Int))) B n O F Y K ⟨S.took, S.par, S.way, m⟩ cs cv wv := h.setO 3 _ cv cs m (h.out.set 3 _) h.cod
theorem EM.setFrom (h : EM w B n O F Y K S cs cv wv) (i : Nat) (v : Int) : EM (w.setCell ⟨F, i, none⟩ (.int .i64 v)) B n O F Y K ⟨S.took, upZ S.par i v, S.way, S.sent⟩ cs cv wv := by
  have hset : ∀ g, g ≠ F → (w.setCell ⟨F, i, none⟩ (.int .i64 v)).heap[g]? = w.heap[g]? := fun g hg => Below.heap_setCell w ⟨F, i, none⟩ _ g hg
  refine ⟨h.out.block (hset O (row_ne h.out h.frm (by decide))), IntRow.congr (h.frm.put i v) (fun j _ => by simp only [updI, upZ]), h.vw.block (hset Y (row_ne h.vw h.frm (by decide))), Row.block h.tok (hset K (fun e => h.ne e.symm)), owns_blk h.let_ fun g e => hset g fun e' => owns_ne_row h.let_ h.frm (by decide) (e' ▸ e), owns_blk h.cod fun g e => hset g fun e' => owns_ne_row h.cod h.frm (by decide) (e' ▸ e), h.ne, h.lowO, h.lowF, h.lowY, h.lowK⟩
theorem EM.setTook (h : EM w B n O F Y K S cs cv wv) (i : Nat) (v : Nat) : EM (w.setCell ⟨K, i, none⟩ (.int .i64 (v : Int))) B n O F Y K ⟨upN S.took i v, S.par, S.way, S.sent⟩ cs cv wv := by
  have hset : ∀ g, g ≠ K → (w.setCell ⟨K, i, none⟩ (.int .i64 (v : Int))).heap[g]? = w.heap[g]? := fun g hg => Below.heap_setCell w ⟨K, i, none⟩ _ g hg
  refine ⟨h.out.block (hset O (row_ne h.out h.tok (by decide))), Row.block h.frm (hset F h.ne), h.vw.block (hset Y (row_ne h.vw h.tok (by decide))), IntRow.congr (h.tok.put i (v : Int)) (fun j _ => by simp only [updI, upN]; split <;> rfl), owns_blk h.let_ fun g e => hset g fun e' => owns_ne_row h.let_ h.tok (by decide) (e' ▸ e), owns_blk h.cod fun g e => hset g fun e' => owns_ne_row h.cod h.tok (by decide) (e' ▸ e), h.ne, h.lowO, h.lowF, h.lowY, h.lowK⟩
/-- Another list of messages. -/
theorem EM.setWay (h : EM w B n O F Y K S cs cv wv) {wv' : Value} {way : List (Nat × Nat)} (hown : OwnL w1 B wv' (ltr way)) (hb1 : ∀ g, g < w.heap.size → wv.ownBlock ≠ some g → w1.heap[g]? = w.heap[g]?) : EM (w1.setCell ⟨Y, 0, none⟩ wv') B n O F Y K ⟨S.took, S.par, way, S.sent⟩ cs cv wv' := by
  have hset : ∀ g, g ≠ Y → (w1.setCell ⟨Y, 0, none⟩ wv').heap[g]? = w1.heap[g]? := fun g hg => Below.heap_setCell w1 ⟨Y, 0, none⟩ wv' g hg
  have hV1 : Row w1 Y 52 [wv] := h.vw.block (hb1 Y h.vw.lt (owns_ne_row h.let_ h.vw (by decide)))
  have hO1 := h.out.block (hb1 O h.out.lt (owns_ne_row h.let_ h.out (by decide)))
  have hF1 := Row.block h.frm (hb1 F (Row.lt h.frm) (owns_ne_row h.let_ h.frm (by decide)))
  have hK1 := Row.block h.tok (hb1 K (Row.lt h.tok) (owns_ne_row h.let_ h.tok (by decide)))
  have hc1 : OwnC w1 B cv cs := owns_blk h.cod fun g e => hb1 g (World.ownsRow.lt h.cod g e).2 (owns_ne_owns h.cod h.let_ (by decide) e)
  exact ⟨hO1.block (hset O (row_ne hO1 hV1 (by decide))), Row.block hF1 (hset F (row_ne hF1 hV1 (by decide))), hV1.set 0 wv', Row.block hK1 (hset K (row_ne hK1 hV1 (by decide))), owns_blk hown fun g e => hset g fun e' => owns_ne_row hown hV1 (by decide) (e' ▸ e), owns_blk hc1 fun g e => hset g fun e' => owns_ne_row hc1 hV1 (by decide) (e' ▸ e), h.ne, h.lowO, h.lowF, h.lowY, h.lowK⟩
/-- One more code. -/
theorem EM.setCod (h : EM w B n O F Y K S cs cv wv) {g cap : Nat} {c : Int} (hown : w1.ownsRow B 27 1 (.slice (some ⟨g, 0, none⟩) (cs.length + 1) cap) (cs.length + 1) (codV cs ++ [.int .i64 c])) (hg : w.grownBy w1 cv.ownBlock) : EM (w1.setCell ⟨O, 0, none⟩ (.slice (some ⟨g, 0, none⟩) (cs.length + 1) cap)) B n O F Y K S (cs ++ [c]) (.slice (some ⟨g, 0, none⟩) (cs.length + 1) cap) wv := by
  have hb1 : ∀ q, q < w.heap.size → cv.ownBlock ≠ some q → w1.heap[q]? = w.heap[q]? := fun q h1 h2 => hg.block q h1 fun e => h2 e.symm
  have hV1 := h.vw.block (hb1 Y h.vw.lt (owns_ne_row h.cod h.vw (by decide)))
  have hO1 := h.out.block (hb1 O h.out.lt (owns_ne_row h.cod h.out (by decide)))
  have hF1 := Row.block h.frm (hb1 F (Row.lt h.frm) (owns_ne_row h.cod h.frm (by decide)))
  have hK1 := Row.block h.tok (hb1 K (Row.lt h.tok) (owns_ne_row h.cod h.tok (by decide)))
  have hl1 : OwnL w1 B wv (ltr S.way) := owns_blk h.let_ fun q e => hb1 q (World.ownsRow.lt h.let_ q e).2 (owns_ne_owns h.let_ h.cod (by decide) e)
  have hc1 : OwnC w1 B (.slice (some ⟨g, 0, none⟩) (cs.length + 1) cap) (cs ++ [c]) := by
    have e : codV (cs ++ [c]) = codV cs ++ [.int .i64 c] := by simp [codV]
    unfold OwnC
    rw [e, List.length_append]
    exact hown
  have hset : ∀ q, q ≠ O → (w1.setCell ⟨O, 0, none⟩ (.slice (some ⟨g, 0, none⟩) (cs.length + 1) cap)).heap[q]? = w1.heap[q]? := fun q hq => Below.heap_setCell w1 ⟨O, 0, none⟩ _ q hq
  exact ⟨hO1.set 0 _, Row.block hF1 (hset F (row_ne hF1 hO1 (by decide))), hV1.block (hset Y (row_ne hV1 hO1 (by decide))), Row.block hK1 (hset K (row_ne hK1 hO1 (by decide))), owns_blk hl1 fun q e => hset q fun e' => owns_ne_row hl1 hO1 (by decide) (e' ▸ e), owns_blk hc1 fun q e => hset q fun e' => owns_ne_row hc1 hO1 (by decide) (e' ▸ e), h.ne, h.lowO, h.lowF, h.lowY, h.lowK⟩
theorem EM.congr (h : EM w B n O F Y K S cs cv wv) (hp : ∀ i, i < n → S.par i = T.par i) (ht : ∀ i, i < n → S.took i = T.took i) (hw : S.way = T.way) (hs : S.sent = T.sent) : EM w B n O F Y K T cs cv wv :=
  ⟨by rw [← hs]; exact h.out, IntRow.congr h.frm hp, h.vw, IntRow.congr h.tok (fun i hi => by rw [ht i hi]), by rw [← hw]; exact h.let_, h.cod, h.ne, h.lowO, h.lowF, h.lowY, h.lowK⟩
/-- The codes, as a slice that is read. -/
theorem OwnC.shape (h : OwnC w B cv cs) : ∃ A cap, cv = .slice A cs.length cap ∧ cs.length ≤ cap ∧ cap ≤ maxLen ∧ Nums w w.heap.size A cs := by
  have hlt := World.ownsRow.lt h
  rcases h.2 with ⟨h7, h8⟩ | ⟨g, cap, cur, hv, hb', hg', hc1, hc2, hc3, hc4⟩
  · exact ⟨none, 0, by rw [h7, h8], by omega, by unfold maxLen; omega, fun h0 => by omega⟩
  · refine ⟨_, cap, hv, hc1, hc2, fun _ => ⟨g, 0, rfl, (hlt g (by rw [hv]; rfl)).2, fun i hi => ?_⟩⟩
    rw [Nat.zero_add, cell_of_row w g i cur 27 (0, 0) hg']
    rw [Nat.mul_one] at hc4
    have : (codV cs)[i]? = some (.int .i64 cs[i]) := by simp [codV, hi]
    rw [← hc4, List.getElem?_take_of_lt hi, Array.getElem?_toList] at this
    exact this
end
/-- What the closure keeps. -/
structure KE (B O Y : Nat) (w w' : World) (wv wv' : Value) : Prop where
  low : Below B w w'
  oth : ∀ g, g < w.heap.size → g ≠ O → g ≠ Y → wv.ownBlock ≠ some g → w'.heap[g]? = w.heap[g]? ∧ wv'.ownBlock ≠ some g
theorem KE.refl (B O Y : Nat) (w : World) (wv : Value) : KE B O Y w w wv wv := ⟨Below.refl B w, fun _ _ _ _ h => ⟨rfl, h⟩⟩
theorem KE.trans {B O Y : Nat} {a b c : World} {u v x : Value} (h : KE B O Y a b u v) (k : KE B O Y b c v x) (hs : a.heap.size ≤ b.heap.size) : KE B O Y a c u x := ⟨h.low.trans k.low, fun g hg h1 h2 h3 => by
  obtain ⟨e1, e2⟩ := h.oth g hg h1 h2 h3
  obtain ⟨e3, e4⟩ := k.oth g (Nat.lt_of_lt_of_le hg hs) h1 h2 e2
  exact ⟨e3.trans e1, e4⟩⟩

set_option maxHeartbeats 1600000 in
theorem ecl_any (w : World) (B n O F Y K : Nat) (S : ES) (cs : List Int) (cv wv : Value) (h : EM w B n O F Y K S cs cv wv) (i j : Nat) (hl : S.way.length ≤ 1000) (hs : S.sent ≤ 1000) :
    Calls Try.prog 22 #[.int .i64 (i : Int), .int .i64 (j : Int), .pointer (some ⟨Y, 0, none⟩), .pointer (some ⟨O, 0, none⟩)] w fun e w' => e = .returned (.tuple #[]) ∧ ∃ wv', EM w' B n O F Y K (S.send i j) cs cv wv' ∧ KE B O Y w w' wv wv' ∧ w.heap.size ≤ w'.heap.size := by
  obtain ⟨j0, hi0, hz0, hz1, hz2⟩ := info_parts infoLt
  have hJi := Lib.hid hi0; have hJz := Lib.hid hz0; have hJs := Lib.hid hz1; have hJb := Lib.hid hz2
  clear hi0 hz0 hz1 hz2
  obtain ⟨A9, cap9, hv9, hc91, hc92, -⟩ := h.let_.shape
  rw [ltr_len] at hv9 hc91
  subst hv9
  have l0 := h.var
  have hsz := h.sz
  have hAm := h.alloc (.cells #[.int .i64 (i : Int), .int .i64 (j : Int), .int .i64 0] 54)
  have hB0 := Lib.hid ((Below.refl B w).alloc hsz (.cells #[.int .i64 (i : Int), .int .i64 (j : Int), .int .i64 0] 54))
  have hWa := hAm.let_
  unfold OwnL at hWa
  rw [ltr_len] at hWa
  have hAmH := Lib.hid hAm
  have hHH := Lib.hid h
  have hnews := Lib.hid (newsL (w := w) ⟨(i : Int), (j : Int), 0⟩ rfl)
  have hbase : B ≤ (w.alloc (.cells #[.int .i64 (i : Int), .int .i64 (j : Int), .int .i64 0] 54)).heap.size := by simp; omega
  have hneY : Hid ((Value.slice A9 S.way.length cap9).ownBlock ≠ some Y) := owns_ne_row hAm.let_ hAm.vw (by decide)
  have hneO : Hid ((Value.slice A9 S.way.length cap9).ownBlock ≠ some O) := owns_ne_row hAm.let_ hAm.out (by decide)
  clear h hAm
  go_enter Try.func22, Try.ntmps22
  go_wp2_with (first
    | (at_builtin; refine wpList_append_lies _ rfl (.tmp 6) (.tmp 10) 52 rfl B 54 j0 (.agg #[.int .i64 0, .int .i64 0, .int .i64 0]) 3 24 Try.underlying52 hJi.out hJz.out hJs.out hJb.out rfl (by decide) (.slice A9 S.way.length cap9) S.way.length (flatL (ltr S.way)) rfl hWa ⟨w.heap.size, 0, none⟩ 1 1 (cellsL ⟨(i : Int), (j : Int), 0⟩) rfl rfl hnews.out (by simp [cellsL, Value.oneCell']) (by omega) (by unfold maxLen; omega) (by omega) hbase _ rfl ?_; intro g cap w1 hown hgr hat hlt
       have f1 := hAmH.out.vw.grown hgr (fun e => hneY.out e.symm)
       have x2 := f1.cell (i := 0) (by simp)
       simp only [List.getElem_cons_zero] at x2
       have ff2 := f1.frozen 0
       have hown' : OwnL w1 B (.slice (some ⟨g, 0, none⟩) (S.way.length + 1) cap) (ltr (S.way ++ [(i, j)])) := by
         rw [ltr_snoc]
         have := OwnL.push (l := ltr S.way) (m := ⟨(i : Int), (j : Int), 0⟩) (w := w1) (B := B) (g := g) (cap := cap) (by rw [ltr_len]; exact hown)
         rw [ltr_len] at this
         exact this
       have hA1 := hAmH.out.setWay hown' (fun q h1 h2 => hgr.block q h1 fun e => h2 e.symm)
       have x3 := hA1.outs.2.2.2
       have ff3 := hA1.out.frozen 3
       have hA2 := Lib.hid (hA1.setSent (S.sent + 1))
       have hK1 : Hid (KE B O Y w ((w1.setCell ⟨Y, 0, none⟩ (.slice (some ⟨g, 0, none⟩) (S.way.length + 1) cap)).setCell ⟨O, 3, none⟩ (.int .i64 ((S.sent + 1 : Nat) : Int))) (.slice A9 S.way.length cap9) (.slice (some ⟨g, 0, none⟩) (S.way.length + 1) cap)) := ⟨((hB0.out.grown hgr hbase (fun b hb => (World.ownsRow.lt hAmH.out.let_ b hb).1)).setCell (p := ⟨Y, 0, none⟩) hHH.out.lowY _).setCell (p := ⟨O, 3, none⟩) hHH.out.lowO _, fun q hq h1 h2 h3 => ⟨by
         rw [Below.heap_setCell _ ⟨O, 3, none⟩ _ q h1, Below.heap_setCell _ ⟨Y, 0, none⟩ _ q h2, hgr.block q (by simp; omega) (fun e => h3 e.symm)]
         exact Below.heap_alloc w _ q hq, by
         rcases hat with h4 | h4
         · rw [h4] at h3; exact h3
         · intro e
           have e2 : g = q := by simpa [Value.ownBlock] using e
           simp at h4
           omega⟩⟩
       have hs1 : Hid (w.heap.size ≤ ((w1.setCell ⟨Y, 0, none⟩ (.slice (some ⟨g, 0, none⟩) (S.way.length + 1) cap)).setCell ⟨O, 3, none⟩ (.int .i64 ((S.sent + 1 : Nat) : Int))).heap.size) := by have := hgr.size; simp at this; unfold Hid; simp; omega
       clear hown hown' hgr hat hlt hA1 f1 hWa hAmH hB0 hHH))
  go_end0
  exact ⟨rfl, _, hA2.out, hK1.out, hs1.out⟩
#print axioms ecl_any
end Go.Proofs.Ytjmkmfeibempjaa
