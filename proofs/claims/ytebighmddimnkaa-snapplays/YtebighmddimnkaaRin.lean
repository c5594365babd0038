/-
  Words for memory: what beaconryref.Snap holds while it lays its rows.
-/
import Derived.Test.YtebighmddimnkaaRcl
namespace Go.Proofs.Ytebighmddimnkaa
open Go.RowKit Go.Maps

def icI (h : Nat) : Nat → Nat → Int
  | 0 => fun a => if a < h then 100 else 0
  | _ + 1 => fun _ => 0
structure RefI (w : World) (B B2 n m mc h : Nat) (b : RB) (vw : Value) : Prop where
  rn : Row w b.bn 3 [.int .i64 (n : Int)]
  rx : Row w b.bR 27 [.slice none 0 0, .bool false, .slice none 0 0, .slice none 0 0]
  ro : Row w b.bo 27 [.slice none 0 0, .bool false, .slice (some ⟨b.ib 1, 0, none⟩) n n, vw]
  rh : Row w b.bh 24 [.slice (some ⟨b.ib 0, 0, none⟩) n n]
  rr : Row w b.br 47 [.slice (some ⟨b.bb 0, 0, none⟩) n n]
  ri : ∀ x, x < m + 2 → IntRow w (b.ib x) n (icI h x)
  rb : ∀ x, x < mc + 1 → BRow w (b.bb x) n (fun _ => false)
  tc : Row w b.Tc 47 (ctop n mc b.bb)
  ow : w.ownsRow B2 24 1 vw m (wtop n m b.ib)
  ii : ∀ x y, x < m + 2 → y < m + 2 → x ≠ y → b.ib x ≠ b.ib y
  jj : ∀ x y, x < mc + 1 → y < mc + 1 → x ≠ y → b.bb x ≠ b.bb y
  ni : ∀ x, x < m + 2 → b.bn ≠ b.ib x
  rt : b.br ≠ b.Tc
  xo : b.bR ≠ b.bo
  hb : b.bh < B2
  lo : B ≤ b.bn ∧ B ≤ b.bo ∧ B ≤ b.bh ∧ B ≤ b.br ∧ B ≤ b.Tc ∧ B ≤ B2 ∧ B ≤ b.bR
  li : ∀ x, x < m + 2 → B ≤ b.ib x
  lb : ∀ x, x < mc + 1 → B ≤ b.bb x
section
variable {w w' : World} {B B2 n m mc h : Nat} {b : RB} {vw : Value}
theorem RefI.blocks (r : RefI w B B2 n m mc h b vw) (hk : ∀ g, B ≤ g → g < w.heap.size → w'.heap[g]? = w.heap[g]?) : RefI w' B B2 n m mc h b vw := by
  obtain ⟨l1, l2, l3, l4, l6, l7, l8⟩ := r.lo
  exact ⟨r.rn.block (hk _ l1 r.rn.lt), r.rx.block (hk _ l8 r.rx.lt), r.ro.block (hk _ l2 r.ro.lt), r.rh.block (hk _ l3 r.rh.lt), r.rr.block (hk _ l4 r.rr.lt),
    fun x hx => Row.block (r.ri x hx) (hk _ (r.li x hx) (Row.lt (r.ri x hx))), fun x hx => Row.block (r.rb x hx) (hk _ (r.lb x hx) (Row.lt (r.rb x hx))), r.tc.block (hk _ l6 r.tc.lt),
    owns_block r.ow (fun g e => hk g (Nat.le_trans l7 (World.ownsRow.lt r.ow g e).1) (World.ownsRow.lt r.ow g e).2), r.ii, r.jj, r.ni, r.rt, r.xo, r.hb, r.lo, r.li, r.lb⟩
/-- 'have[i] = 100'. -/
theorem RefI.have_ (r : RefI w B B2 n m mc h b vw) : RefI (w.setCell ⟨b.ib 0, h, none⟩ (.int .i64 100)) B B2 n m mc (h + 1) b vw := by
  have hr := r.ri 0 (by omega)
  refine ⟨r.rn.far (r.ni 0 (by omega)) _, r.rx.far (r.rx.ne hr (by decide)) _, r.ro.far (r.ro.ne hr (by decide)) _, r.rh.far (r.rh.ne hr (by decide)) _, r.rr.far (r.rr.ne hr (by decide)) _, fun y hy => ?_,
    fun y hy => Row.far (r.rb y hy) (Row.ne (r.rb y hy) hr (by decide)) _, r.tc.far (r.tc.ne hr (by decide)) _, owns_far r.ow hr (by decide) _, r.ii, r.jj, r.ni, r.rt, r.xo, r.hb, r.lo, r.li, r.lb⟩
  by_cases e : y = 0
  · subst e
    refine IntRow.congr (IntRow.put hr h 100) (fun a _ => ?_)
    unfold updI
    simp only [icI]
    by_cases ea : a = h
    · rw [if_pos ea, if_pos (by omega)]
    · rw [if_neg ea]
      by_cases eb : a < h
      · rw [if_pos eb, if_pos (by omega)]
      · rw [if_neg eb, if_neg (by omega)]
  · refine IntRow.congr (Row.far (r.ri y hy) (r.ii y 0 hy (by omega) e) _) (fun a _ => ?_)
    match y, e with
    | k + 1, _ => rfl
/-- 'closed[i] = make([]bool, n)'. -/
theorem RefI.closed_ (r : RefI w B B2 n m mc h b vw) (hB : B ≤ w.heap.size) (hR : BRow w' w.heap.size n (fun _ => false)) (hg : w.grownBy w' none) :
    RefI (w'.setCell ⟨b.Tc, mc, none⟩ (.slice (some ⟨w.heap.size, 0, none⟩) n n)) B B2 n m (mc + 1) h { b with bb := up1 b.bb (mc + 1) w.heap.size } vw := by
  have hk : ∀ {g t xs}, Row w g t xs → Row w' g t xs := fun hr => hr.grown hg (by simp)
  have hlt : ∀ {g t xs}, Row w g t xs → g ≠ w.heap.size := fun {g t xs} hr e => by have := hr.lt; omega
  have ht := hk r.tc
  have hRt : w.heap.size ≠ b.Tc := fun e => hlt r.tc e.symm
  have hbl : ∀ x, x < mc + 1 → b.bb x ≠ w.heap.size := fun x hx => hlt (r.rb x hx)
  have h0 : up1 b.bb (mc + 1) w.heap.size 0 = b.bb 0 := up1_other _ _ (by omega)
  refine ⟨(hk r.rn).far ((hk r.rn).ne ht (by decide)) _, (hk r.rx).far ((hk r.rx).ne ht (by decide)) _, (hk r.ro).far ((hk r.ro).ne ht (by decide)) _, (hk r.rh).far ((hk r.rh).ne ht (by decide)) _, ?_,
    fun x hx => Row.far (hk (r.ri x hx)) (Row.ne (hk (r.ri x hx)) ht (by decide)) _, fun x hx => ?_, ?_, owns_far (World.ownsRow.kept r.ow hg (by cases vw.ownBlock <;> simp)) ht (by decide) _, r.ii, fun x y hx hy hne => ?_, r.ni, r.rt, r.xo, r.hb, r.lo, r.li, fun x hx => ?_⟩
  · show Row _ b.br 47 [.slice (some ⟨up1 b.bb (mc + 1) w.heap.size 0, 0, none⟩) n n]
    rw [h0]
    exact (hk r.rr).far r.rt _
  · show BRow _ (up1 b.bb (mc + 1) w.heap.size x) n _
    by_cases e : x = mc + 1
    · subst e
      rw [up1_same]
      exact Row.far hR hRt _
    · rw [up1_other _ _ e]
      exact Row.far (hk (r.rb x (by omega))) (Row.ne (hk (r.rb x (by omega))) ht (by decide)) _
  · have h1 := ht.set mc (.slice (some ⟨w.heap.size, 0, none⟩) n n)
    have e : (ctop n mc b.bb).set mc (.slice (some ⟨w.heap.size, 0, none⟩) n n) = ctop n (mc + 1) (up1 b.bb (mc + 1) w.heap.size) := by
      apply List.ext_getElem
      · simp [ctop]
      · intro a h1 h2
        have ha : a < n := by simpa [ctop] using h2
        rw [List.getElem_set]
        by_cases e : mc = a
        · subst e
          rw [if_pos rfl]
          simp [ctop, up1_same]
        · rw [if_neg e]
          have e3 : ¬ (a + 1 = mc + 1) := by omega
          simp only [ctop, List.getElem_map, List.getElem_range, up1, if_neg e3]
          by_cases hb : a < mc
          · rw [if_pos hb, if_pos (by omega)]
          · rw [if_neg hb, if_neg (by omega)]
    rw [e] at h1
    exact h1
  · show up1 b.bb (mc + 1) w.heap.size x ≠ up1 b.bb (mc + 1) w.heap.size y
    by_cases e : x = mc + 1
    · subst e
      rw [up1_same, up1_other _ _ (fun h => hne h.symm)]
      exact fun e => hbl y (by omega) e.symm
    · by_cases e2 : y = mc + 1
      · subst e2
        rw [up1_same, up1_other _ _ e]
        exact hbl x (by omega)
      · rw [up1_other _ _ e, up1_other _ _ e2]
        exact r.jj x y (by omega) (by omega) hne
  · show B ≤ up1 b.bb (mc + 1) w.heap.size x
    by_cases e : x = mc + 1
    · subst e; rw [up1_same]; exact hB
    · rw [up1_other _ _ e]; exact r.lb x (by omega)
/-- 'out.Way = append(out.Way, make([]int, n))': g the row, vw2 the new slice. -/
theorem RefI.way_ (r : RefI w B B2 n m mc h b vw) (hB : B ≤ w.heap.size) {g : Nat} {vw2 : Value} (hgB : w.heap.size ≤ g) (hR : IntRow w' g n (fun _ => 0)) (hblk : ∀ c, c < w.heap.size → some c ≠ vw.ownBlock → w'.heap[c]? = w.heap[c]?)
    (ho : w'.ownsRow B2 24 1 vw2 (m + 1) (wtop n m b.ib ++ [.slice (some ⟨g, 0, none⟩) n n])) :
    RefI (w'.setCell ⟨b.bo, 3, none⟩ vw2) B B2 n (m + 1) mc h { b with ib := up1 b.ib (m + 2) g } vw2 := by
  have hk : ∀ {c t xs}, Row w c t xs → 24 ≠ t → Row w' c t xs := fun {c t xs} hr ht => hr.block (hblk c hr.lt (fun e => owns_ne_row r.ow hr ht e.symm))
  have hl1 := hk r.ro (by decide)
  have hrh : Row w' b.bh 24 [.slice (some ⟨b.ib 0, 0, none⟩) n n] := r.rh.block (hblk _ r.rh.lt (fun e => by
    have := (World.ownsRow.lt r.ow b.bh e.symm).1
    have := r.hb
    omega))
  have hil : ∀ x, x < m + 2 → b.ib x ≠ g := fun x hx e => by have := Row.lt (r.ri x hx); omega
  have h0 : up1 b.ib (m + 2) g 0 = b.ib 0 := up1_other _ _ (by omega)
  have h1 : up1 b.ib (m + 2) g 1 = b.ib 1 := up1_other _ _ (by omega)
  have ew : wtop n (m + 1) (up1 b.ib (m + 2) g) = wtop n m b.ib ++ [.slice (some ⟨g, 0, none⟩) n n] := by
    unfold wtop
    rw [List.range_succ, List.map_append]
    congr 1
    · exact List.map_congr_left fun i hi => by
        have := List.mem_range.1 hi
        rw [up1_other _ _ (by omega)]
    · simp [up1_same]
  refine ⟨(hk r.rn (by decide)).far ((hk r.rn (by decide)).ne hl1 (by decide)) _, (hk r.rx (by decide)).far r.xo _, ?_, ?_, (hk r.rr (by decide)).far ((hk r.rr (by decide)).ne hl1 (by decide)) _,
    fun x hx => ?_, fun x hx => Row.far (hk (r.rb x hx) (by decide)) (Row.ne (hk (r.rb x hx) (by decide)) hl1 (by decide)) _, (hk r.tc (by decide)).far ((hk r.tc (by decide)).ne hl1 (by decide)) _, ?_, fun x y hx hy hne => ?_, r.jj, fun x hx => ?_, r.rt, r.xo, r.hb, r.lo, fun x hx => ?_, r.lb⟩
  · show Row _ b.bo 27 [.slice none 0 0, .bool false, .slice (some ⟨up1 b.ib (m + 2) g 1, 0, none⟩) n n, vw2]
    rw [h1]
    exact hl1.set 3 vw2
  · show Row _ b.bh 24 [.slice (some ⟨up1 b.ib (m + 2) g 0, 0, none⟩) n n]
    rw [h0]
    exact hrh.far (hrh.ne hl1 (by decide)) _
  · show IntRow _ (up1 b.ib (m + 2) g x) n _
    by_cases e : x = m + 2
    · subst e
      rw [up1_same]
      refine IntRow.congr (Row.far hR (fun e => (Row.ne hR hl1 (by decide)) e) _) (fun a _ => rfl)
    · rw [up1_other _ _ e]
      have := hk (r.ri x (by omega)) (by decide)
      exact Row.far this (Row.ne this hl1 (by decide)) _
  · show World.ownsRow _ B2 24 1 vw2 (m + 1) (wtop n (m + 1) (up1 b.ib (m + 2) g))
    rw [ew]
    exact owns_far ho hl1 (by decide) _
  · show up1 b.ib (m + 2) g x ≠ up1 b.ib (m + 2) g y
    by_cases e : x = m + 2
    · subst e
      rw [up1_same, up1_other _ _ (fun h => hne h.symm)]
      exact fun e => hil y (by omega) e.symm
    · by_cases e2 : y = m + 2
      · subst e2
        rw [up1_same, up1_other _ _ e]
        exact hil x (by omega)
      · rw [up1_other _ _ e, up1_other _ _ e2]
        exact r.ii x y (by omega) (by omega) hne
  · show b.bn ≠ up1 b.ib (m + 2) g x
    by_cases e : x = m + 2
    · subst e
      rw [up1_same]
      have := r.rn.lt
      omega
    · rw [up1_other _ _ e]; exact r.ni x (by omega)
  · show B ≤ up1 b.ib (m + 2) g x
    by_cases e : x = m + 2
    · subst e; rw [up1_same]; omega
    · rw [up1_other _ _ e]; exact r.li x (by omega)
/-- All is laid; 'var way []Letter'. -/
theorem RefI.done (r : RefI w B B2 n n n n b vw) (hB : B ≤ w.heap.size) : RefM (w.alloc (.cells #[.slice none 0 0] 49)) B B2 n n { b with bw := w.heap.size } St.begin false vw (.slice none 0 0) (.slice none 0 0) [] [] := by
  have r2 := r.blocks (w' := w.alloc (.cells #[.slice none 0 0] 49)) (fun g _ hg => Below.heap_alloc w _ g hg)
  obtain ⟨l1, l2, l3, l4, l6, l7, l8⟩ := r.lo
  refine ⟨r2.rn, r2.rx, r2.ro, r2.rh, r2.rr, Row.made w 49 [.slice none 0 0], fun x hx => IntRow.congr (r2.ri x hx) (fun a ha => ?_), fun x hx => BRow.congr (r2.rb x hx) (fun a ha => ?_), r2.tc, r2.ow, World.ownsRow_nil _ _ _ _, World.ownsRow_nil _ _ _ _, r2.ii, r2.jj, r2.ni, r2.rt, r2.xo, r2.hb, ⟨l1, l2, l3, l4, hB, l6, l7, l8⟩, r2.li, r2.lb⟩
  · match x with
    | 0 => simp [icI, ic, St.begin, ha]
    | 1 => rfl
    | k + 2 => rfl
  · match x with
    | 0 => rfl
    | k + 1 => rfl
end

#print axioms RefI.done
end Go.Proofs.Ytebighmddimnkaa
