/-
  The contract of (*network).parents of package echo.
-/
import Derived.Test.YtjmkmfeibempjaaNsd
namespace Go.Proofs.Ytjmkmfeibempjaa
open Go.RowKit Go.Maps
set_option linter.unusedVariables false

def ParRel (w1 : World) (g n : Nat) (par : Nat → Int) (k : Nat) (wr : World) : Prop := ∃ A, IntRow wr g n A ∧ (∀ i, i < k → A i = par i) ∧ Below g w1 wr
set_option maxHeartbeats 1600000 in
theorem parents_any (w : World) (B N P n s : Nat) (nv : Nat → Value) (nb : Nat → List Nat) (S : ES) (h : Net w B N P n s nv nb S) (hn : n ≤ 6) :
    Calls Try.prog 20 #[.pointer (some ⟨N, 0, none⟩)] w fun e w' => e = .returned (.slice (some ⟨w.heap.size, 0, none⟩) n n) ∧ IntRow w' w.heap.size n S.par ∧ Below w.heap.size w w' := by
  obtain ⟨tv, hA⟩ := h
  have s0 := hA.cells.1
  obtain ⟨j0, hi0, hz0, hz1, hz2⟩ := info_parts infoInt
  have hAH := Lib.hid hA
  clear hA
  go_enter Try.func20, Try.ntmps20
  go_wp2_with (first
    | (at_make; refine wpList_make_row w rfl _ _ 23 rfl 3 j0 (.int .i64 0) Try.underlying23 hi0 hz0 hz1 rfl .i64 .i64 _ _ n rfl rfl rfl rfl (by rw [hz2]; omega) (by unfold maxLen; omega) ?_; intro w1 hr1 hg1
       have hB1 := (Below.refl w.heap.size w).grown hg1 (Nat.le_refl _) (fun b hb => by cases hb)
       have s1 := (hAH.out.below hB1).cells.1))
  have hI0 : IntRow w1 w.heap.size n (fun _ => 0) := by unfold IntRow; rw [← intRow_zero]; exact hr1
  have hI0H := Lib.hid hI0
  have hB1H := Lib.hid hB1
  have hszH : Hid (w.heap.size < w1.heap.size) := hr1.lt
  clear hI0 hr1 hg1 hB1 hi0 hz0 hz1 hz2
  generalize hgg : w.heap.size = g at *
  have hgH := Lib.hid hgg
  clear hgg
  go_loopw [17] (fun v wr => ∃ k : Nat, k ≤ n ∧ v = .int .i64 k ∧ ParRel w1 g n S.par k wr) (fun v _ => n - (intOf v).toNat)
  case atStart => exact ⟨0, Nat.zero_le _, rfl, _, hI0H.out, fun i hi => by omega, Below.refl _ _⟩
  case round =>
    clear hI0H
    obtain ⟨k, hk, rfl, A, hI, hAk, hB⟩ := hrel
    have hAr := hAH.out.below (hgH.out ▸ hB1H.out)
    by_cases hlt : k < n
    · have hkI : (k : Int) < (n : Int) := by omega
      have hAw : NetAt wr B N P n s nv nb tv S := (hAH.out.blocks (fun q _ hq => by
        rw [hB.block q (by rw [hgH.out] at hq; exact hq)]
        exact hB1H.out.block q (by rw [hgH.out] at hq; exact hq)))
      obtain ⟨p0, p1, p2⟩ := hAw.prc.cells hlt
      obtain ⟨A9, cap9, hv9, -, -, -⟩ := (hAw.nbr k hlt).shape
      rw [hv9] at p0
      have hrow := Row.made wr 62 [.slice A9 (nb k).length cap9, .int .i64 (S.par k), .int .i64 (S.took k : Int)]
      have d1 := hrow.cell (i := 1) (by simp)
      simp only [List.getElem_cons_zero, List.getElem_cons_succ] at d1
      have hIa := hI.alloc (.cells #[.slice A9 (nb k).length cap9, .int .i64 (S.par k), .int .i64 (S.took k : Int)] 62)
      have e0 := IntRow.at_ hIa hlt
      have ef := Row.frozen hIa k
      have hI2 := Lib.hid (IntRow.put hIa k (S.par k))
      have hglt : g ≤ wr.heap.size := Nat.le_of_lt (Row.lt hI)
      have hB2 := Lib.hid ((hB.alloc hglt (.cells #[.slice A9 (nb k).length cap9, .int .i64 (S.par k), .int .i64 (S.took k : Int)] 62)).setCell (p := ⟨g, k, none⟩) (Nat.le_refl _) (.int .i64 (S.par k)))
      have hnx : Hid (∀ i, i < k + 1 → updI A k (S.par k) i = S.par i) := fun i hi => by
        unfold updI
        by_cases e : i = k
        · rw [if_pos e, e]
        · rw [if_neg e]; exact hAk i (by omega)
      clear hAw hv9 hrow hIa hAk hAr
      generalize (nb k).length = L9 at *
      generalize hpp : S.par k = pk at *
      generalize S.took k = tk at *
      have hppH := Lib.hid hpp
      clear hpp
      go_wp2_with fail
      go_roundw
      case rel => exact ⟨k + 1, by omega, by go_num, _, hI2.out, hnx.out, hB2.out⟩
      case measure => simp [intOf]; omega
    · have hkn : k = n := by omega
      subst hkn
      have hfin : Hid (IntRow wr w.heap.size k S.par ∧ Below w.heap.size w wr) := by
        unfold Hid
        rw [hgH.out]
        exact ⟨hI.congr hAk, hB1H.out.trans hB⟩
      have hgr := hgH.out
      clear hAk hAr
      go_wp2_with fail
      go_ret
      exact ⟨by rw [hgr]; rfl, hfin.out.1, hfin.out.2⟩
#print axioms parents_any
end Go.Proofs.Ytjmkmfeibempjaa
