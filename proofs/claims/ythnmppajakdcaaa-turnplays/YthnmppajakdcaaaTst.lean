/-
  The contract of turn.start.
-/
import Derived.Test.YthnmppajakdcaaaTex
import Derived.Maps.OwnOps
namespace Go.Proofs.Ythnmppajakdcaaa
open Go.RowKit Go.Maps
set_option linter.unusedVariables false

theorem infoPrt : (Try.prog.info? 63).map (fun i => (i.zero, i.size, i.bytes)) = some (some (.agg #[.int .i64 0, .bool false, .bool false, .int .i64 0, .int .i64 0, .slice none 0 0]), 6, 56) := by kernel_rfl
theorem infoBlT : (Try.prog.info? 4).map (fun i => (i.zero, i.size, i.bytes)) = some (some (.bool false), 1, 1) := by kernel_rfl
theorem make_bools (n : Nat) (hn : n ≤ 6) (w : World) :
    (Instr.makeSlice 45 (.int .i64 (n : Int)) (.int .i64 (n : Int))).run Try.prog w = .ok (.slice (some ⟨w.heap.size, 0, none⟩) n n) (w.alloc (.cells (List.replicate n (.bool false)).toArray 4)) := by
  obtain ⟨i0, hi0, hz0, hz1, hz2⟩ := info_parts infoBlT
  have h1 := run_make (P := Try.prog) w 45 4 i0 (.bool false) Try.underlying45 hi0 hz0 .i64 .i64 (n : Int) (n : Int) (by omega) (by omega) (by
    rw [hz2]; omega) (by omega)
  rw [h1, hz1]
  congr 2
  · rw [Int.toNat_natCast, Nat.mul_one]
    have : madeCells #[.bool false] n = (List.replicate n (Value.bool false)).toArray := by
      rw [← toList_madeCells_one]
    rw [← this]
    rfl
/-- Behind k rows. -/
def gst (n : Nat) (D : Nat → Nat) (k i c : Nat) : Value := if c = 5 then (if i < k then .slice (some ⟨D i, 0, none⟩) n n else snil) else fldT n TS.begin D i c
structure StA (w : World) (B s P M n k : Nat) (D : Nat → Nat) : Prop where
  sys : Row w s 61 [.slice (some ⟨P, 0, none⟩) n n, .map (some M)]
  prs : Grid w P 63 6 n (gst n D k)
  dfr : ∀ i, i < k → BRowG w (D i) n (fun _ => false)
  map : Mp2 w M 0 (fun _ _ => none)
  inj : ∀ i j, i < k → j < k → i ≠ j → D i ≠ D j
  lowS : B ≤ s
  lowP : B ≤ P
  lowM : B ≤ M
  lowD : ∀ i, i < k → B ≤ D i
def StRel (w0 : World) (B s P M n k : Nat) (wr : World) : Prop := ∃ D, StA wr B s P M n k D ∧ Below B w0 wr
theorem StA.done {w : World} {B s P M n : Nat} {D : Nat → Nat} (h : StA w B s P M n n D) : SysT w B s P M n 0 D TS.begin := by
  refine ⟨fun _ _ => none, h.sys, h.prs.congr fun i c hi hc => ?_, fun i hi => h.dfr i hi, h.map, fun i j _ _ => .nil w B, h.inj, fun _ _ _ _ _ => .inl rfl, fun _ _ _ hf => (by cases hf), h.lowS, h.lowP, h.lowM, h.lowD⟩
  unfold gst
  by_cases e : c = 5
  · subst e
    rw [if_pos rfl, if_pos hi]
    rfl
  · rw [if_neg e]
/-- One more row. -/
theorem StA.next {w : World} {B s P M n k : Nat} {D : Nat → Nat} (h : StA w B s P M n k D) (hk : k < n) :
    StA ((w.alloc (.cells (List.replicate n (.bool false)).toArray 4)).setCell ⟨P, k * 6 + 5, none⟩ (.slice (some ⟨w.heap.size, 0, none⟩) n n)) B s P M n (k + 1) (up1 D k w.heap.size) := by
  have hR := Row.made w 4 (List.replicate n (.bool false))
  have hP := h.prs.block (Below.heap_alloc w (.cells (List.replicate n (.bool false)).toArray 4) P h.prs.lt)
  have hsz : B ≤ w.heap.size := Nat.le_of_lt (Nat.lt_of_le_of_lt h.lowP h.prs.lt)
  obtain ⟨xs, hPr⟩ := hP.row
  have hs : ∀ b, b ≠ P → ((w.alloc (.cells (List.replicate n (.bool false)).toArray 4)).setCell ⟨P, k * 6 + 5, none⟩ (.slice (some ⟨w.heap.size, 0, none⟩) n n)).heap[b]? = (w.alloc (.cells (List.replicate n (.bool false)).toArray 4)).heap[b]? := fun b hb => Below.heap_setCell _ ⟨P, k * 6 + 5, none⟩ _ b hb
  refine ⟨(h.sys.alloc _).block (hs _ (rowG_ne (h.sys.alloc _) hPr (by decide))), (hP.set hk (c := 5) (by omega) _).congr fun i c hi hc => ?_, fun i hi => ?_, (h.map.alloc _).block (hs _ ((h.map.alloc _).ne_row hPr)), fun i j hi hj hne => ?_, h.lowS, h.lowP, h.lowM, fun i hi => ?_⟩
  · unfold gst
    by_cases e : c = 5
    · subst e
      rw [if_pos rfl]
      by_cases e2 : i = k
      · subst e2
        rw [up2_same, if_pos (by omega), up1_same]
      · rw [up2_other _ _ (fun h => e2 h.1), if_pos rfl]
        by_cases e3 : i < k
        · rw [if_pos e3, if_pos (by omega), up1_other _ _ e2]
        · rw [if_neg e3, if_neg (by omega)]
    · rw [if_neg e, up2_other _ _ (fun h => e h.2), if_neg e]
      unfold fldT
      have hc' : c = 0 ∨ c = 1 ∨ c = 2 ∨ c = 3 ∨ c = 4 := by omega
      rcases hc' with rfl | rfl | rfl | rfl | rfl <;> rfl
  · by_cases e : i = k
    · subst e
      rw [up1_same]
      have hne := rowG_ne hR hPr (by decide)
      have hR2 : BRowG (w.alloc (.cells (List.replicate n (.bool false)).toArray 4)) w.heap.size n (fun _ => false) := by
        unfold BRowG
        rw [← boolG_zero]
        exact hR
      exact Row.block hR2 (hs _ hne)
    · rw [up1_other _ _ e]
      have h1 := Row.alloc (h.dfr i (by omega)) (.cells (List.replicate n (.bool false)).toArray 4)
      exact Row.block h1 (hs _ (rowG_ne h1 hPr (by decide)))
  · have hl : ∀ a, a < k → D a < w.heap.size := fun a ha => Row.lt (h.dfr a ha)
    by_cases e : i = k
    · subst e
      rw [up1_same, up1_other _ _ (fun e => hne e.symm)]
      have := hl j (by omega)
      omega
    · rw [up1_other _ _ e]
      by_cases e2 : j = k
      · subst e2
        rw [up1_same]
        have := hl i (by omega)
        omega
      · rw [up1_other _ _ e2]
        exact h.inj i j (by omega) (by omega) hne
  · by_cases e : i = k
    · rw [e, up1_same]; exact hsz
    · rw [up1_other _ _ e]; exact h.lowD i (by omega)
theorem StA.drew {w : World} {B s P M n k : Nat} {D : Nat → Nat} (h : StA w B s P M n k D) : StA w.drew B s P M n k D :=
  ⟨h.sys.block rfl, h.prs.block rfl, fun i hi => Row.block (h.dfr i hi) rfl, h.map.block rfl, h.inj, h.lowS, h.lowP, h.lowM, h.lowD⟩

def SttRes (w : World) (n : Nat) (e : Ending) (w' : World) : Prop := ∃ s P M D, e = .returned (.pointer (some ⟨s, 0, none⟩)) ∧ SysT w' w.heap.size s P M n 0 D TS.begin ∧ Below w.heap.size w w'

set_option maxHeartbeats 1600000 in
theorem start_any (w : World) (n : Nat) (hn : n ≤ 6) (h0 : 0 < n) : Calls Try.prog 14 #[.int .i64 (n : Int)] w (SttRes w n) := by
  have hmm := @run_makeMap Try.prog
  have hmk := Lib.hid (make_bools n hn)
  obtain ⟨i0, hi0, hz0, hz1, hz2⟩ := info_parts infoPrt
  have hJi := Lib.hid hi0; have hJz := Lib.hid hz0; have hJs := Lib.hid hz1; have hJb : i0.bytes * n ≤ 281474976710656 := by rw [hz2]; omega
  clear hi0 hz0 hz1 hz2
  go_enter Try.func14, Try.ntmps14
  go_wp2_with (first
    | (at_make; refine wpList_make_grid _ rfl _ _ _ rfl 63 i0 _ 6 Try.underlying58 hJi.out hJz.out hJs.out rfl .i64 .i64 _ _ n rfl rfl rfl rfl hJb (by unfold maxLen; omega) ?_; intro w1 hP1 hG1
       have hsz1 := hG1.size
       have hB1 : Below w.heap.size w w1 := (Below.refl w.heap.size w).grown hG1 (Nat.le_refl _) (by simp)
       have hM2 := Mp2.made w1
       have hP2 := hP1.block (w' := w1.alloc (.map #[] 0)) (Below.heap_alloc w1 _ _ hP1.lt)
       have hP3 := hP2.block (w' := (w1.alloc (.map #[] 0)).alloc (.cells #[.slice (some ⟨w.heap.size, 0, none⟩) n n, .map (some w1.heap.size)] 61)) (Below.heap_alloc _ _ _ hP2.lt)
       have hM3 := hM2.alloc (.cells #[.slice (some ⟨w.heap.size, 0, none⟩) n n, .map (some w1.heap.size)] 61)
       have hR3 := Row.made (w1.alloc (.map #[] 0)) 61 [.slice (some ⟨w.heap.size, 0, none⟩) n n, .map (some w1.heap.size)]
       have hB3 := (hB1.alloc hsz1 (.map #[] 0)).alloc (by simp; omega) (.cells #[.slice (some ⟨w.heap.size, 0, none⟩) n n, .map (some w1.heap.size)] 61)
       have hz3 : (w1.alloc (.map #[] 0)).heap.size = w1.heap.size + 1 := (by simp)
       have hS3 : StA ((w1.alloc (.map #[] 0)).alloc (.cells #[.slice (some ⟨w.heap.size, 0, none⟩) n n, .map (some w1.heap.size)] 61)) w.heap.size (w1.alloc (.map #[] 0)).heap.size w.heap.size w1.heap.size n 0 (fun _ => 0) :=
         ⟨hR3, hP3.congr (fun i c hi hc => (by
           unfold gst
           have hc' : c = 0 ∨ c = 1 ∨ c = 2 ∨ c = 3 ∨ c = 4 ∨ c = 5 := (by omega)
           rcases hc' with rfl | rfl | rfl | rfl | rfl | rfl <;> rfl)), fun i hi => absurd hi (by omega), hM3, fun i j hi => absurd hi (by omega), (by omega), Nat.le_refl _, hsz1, fun i hi => absurd hi (by omega)⟩
       rw [hz3] at hS3
       have s3 := hS3.sys.cell (i := 0) (by simp)
       simp only [List.getElem_cons_zero] at s3
       have hini : Hid (StRel w w.heap.size (w1.heap.size + 1) w.heap.size w1.heap.size n 0 ((w1.alloc (.map #[] 0)).alloc (.cells #[.slice (some ⟨w.heap.size, 0, none⟩) n n, .map (some w1.heap.size)] 61))) := ⟨_, hS3, hB3⟩
       clear hP1 hG1 hB1 hM2 hP2 hP3 hM3 hR3 hB3 hsz1 hS3))
  have hini2 := hini.out
  generalize (w1.alloc (.map #[] 0)).alloc (.cells #[.slice (some ⟨w.heap.size, 0, none⟩) n n, .map (some w1.heap.size)] 61) = w3 at *
  clear hini s3 hz3
  generalize hs' : w1.heap.size + 1 = s at *
  generalize w1.heap.size = M at *
  generalize hB : w.heap.size = B at *
  have hBH := Lib.hid hB
  clear hs' hB
  go_loopw [15] (fun t wr => ∃ k : Nat, k ≤ n ∧ t = .int .i64 k ∧ StRel w B s B M n k wr) (fun t _ => n - (intOf t).toNat)
  case atStart => exact ⟨0, Nat.zero_le _, rfl, hini2⟩
  case round =>
    clear hini2
    obtain ⟨k, hk, rfl, D, hA, hBw⟩ := hrel
    have s0 := hA.sys.cell (i := 0) (by simp)
    simp only [List.getElem_cons_zero] at s0
    by_cases hlt : k < n
    · have hkI : (k : Int) < (n : Int) := by omega
      have hmk2 := hmk.out wr.drew
      have p5 := hA.prs.cell hlt (c := 5) (by omega)
      have f5 := hA.prs.frozen (k * 6 + 5)
      have hne : wr.heap.size ≠ B := by have := hA.prs.lt; omega
      have a0 : ∀ o, (wr.alloc o).cell? ⟨s, 0, none⟩ = some (.slice (some ⟨B, 0, none⟩) n n) := fun o => (hA.sys.alloc o).cell (i := 0) (by simp)
      have a5 : ∀ o, (wr.alloc o).cell? ⟨B, k * 6 + 5, none⟩ = some (gst n D k k 5) := fun o => (hA.prs.block (Below.heap_alloc wr o B hA.prs.lt)).cell hlt (c := 5) (by omega)
      have af : ∀ o, (wr.alloc o).frozen? ⟨B, k * 6 + 5, none⟩ = false := fun o => (hA.prs.block (Below.heap_alloc wr o B hA.prs.lt)).frozen (k * 6 + 5)
      generalize gst n D k k 5 = y5 at *
      have hnx : Hid (StRel w B s B M n (k + 1) (((wr.alloc (.cells (List.replicate n (.bool false)).toArray 4)).setCell ⟨B, k * 6 + 5, none⟩ (.slice (some ⟨wr.heap.size, 0, none⟩) n n)).drew)) :=
        ⟨_, (hA.next hlt).drew, ((hBw.alloc (by have := hA.prs.lt; omega) _).setCell (p := ⟨B, k * 6 + 5, none⟩) (Nat.le_refl _) _).drew⟩
      clear hA hBw hk
      go_wp2_with fail
      go_region
      go_wp2_with fail
      have hnx2 := hnx.out
      simp only [List.toArray_replicate] at hnx2
      go_roundw
      case rel => exact ⟨k + 1, by omega, by go_num, hnx2⟩
      case measure => simp [intOf]; omega
    · have hkn : k = n := by omega
      subst hkn
      go_wp2_with fail
      go_ret
      exact ⟨s, B, M, D, rfl, by rw [hBH.out]; exact hA.done, by rw [hBH.out]; exact hBw⟩

#print axioms StA.next
#print axioms start_any
end Go.Proofs.Ythnmppajakdcaaa
