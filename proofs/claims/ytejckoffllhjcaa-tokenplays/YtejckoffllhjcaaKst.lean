/-
  The contract of token.start.
-/
import Derived.Test.YtejckoffllhjcaaKex
import Derived.Test.YtejckoffllhjcaaKck
import Derived.Maps.OwnOps
namespace Go.Proofs.Ytejckoffllhjcaa
open Go.RowKit Go.Maps
set_option linter.unusedVariables false

theorem infoPrK : (Try.prog.info? 70).map (fun i => (i.zero, i.size, i.bytes)) = some (some (.agg #[.int .i64 0, .slice none 0 0, .bool false]), 3, 40) := by kernel_rfl
/-- The first k parents. -/
def uK (u : Nat → Nat) (k i : Nat) : Nat := if i < k then u i else 0
theorem uK_next (u : Nat → Nat) (k : Nat) : (KS.begin (uK u k)).aim k (u k) = KS.begin (uK u (k + 1)) := KS.eq (by
  funext i
  show up1 (uK u k) k (u k) i = uK u (k + 1) i
  unfold uK
  by_cases e : i = k
  · rw [e, up1_same, if_pos (by omega)]
  · rw [up1_other _ _ e]
    by_cases e2 : i < k
    · rw [if_pos e2, if_pos (by omega)]
    · rw [if_neg e2, if_neg (by omega)]) rfl rfl rfl
theorem SysK.begin_congr {w : World} {B s P M n c : Nat} {u u' : Nat → Nat} (h : SysK w B s P M n c (KS.begin u)) (e : ∀ i, i < n → u' i = u i) : SysK w B s P M n c (KS.begin u') := by
  obtain ⟨D, f, h⟩ := h
  refine ⟨D, f, h.sys, h.prs.congr fun i c hi hc => ?_, h.row, h.map, h.que, h.inj, h.apart, h.lowF, h.lowS, h.lowP, h.lowM⟩
  have hc' : c = 0 ∨ c = 1 ∨ c = 2 := by omega
  rcases hc' with rfl | rfl | rfl
  · show Value.int .i64 (u' i : Int) = .int .i64 (u i : Int)
    rw [e i hi]
  · rfl
  · rfl

def SttK (w : World) (n : Nat) (u : Nat → Nat) (e : Ending) (w' : World) : Prop := ∃ s P M, e = .returned (.pointer (some ⟨s, 0, none⟩)) ∧ SysK w' w.heap.size s P M n 0 (KS.begin u) ∧ Below w.heap.size w w'

set_option maxHeartbeats 1600000 in
theorem start_any (w : World) (b off cap : Nat) (u : Nat → Nat) (n : Nat) (hb : b < w.heap.size) (hc : ∀ i, i < n → w.cell? ⟨b, off + i, none⟩ = some (.int .i64 (u i : Int))) (hn : n ≤ 6) (h0 : 0 < n) :
    Calls Try.prog 16 #[.slice (some ⟨b, off, none⟩) n cap] w (SttK w n u) := by
  have hmm := @run_makeMap Try.prog
  obtain ⟨i0, hi0, hz0, hz1, hz2⟩ := info_parts infoPrK
  have hJi := Lib.hid hi0; have hJz := Lib.hid hz0; have hJs := Lib.hid hz1; have hJb : i0.bytes * n ≤ 281474976710656 := by rw [hz2]; omega
  have hcH := Lib.hid hc
  clear hi0 hz0 hz1 hz2 hc
  go_enter Try.func16, Try.ntmps16
  go_wp2_with (first
    | (at_make; refine wpList_make_grid _ rfl _ _ _ rfl 70 i0 _ 3 Try.underlying65 hJi.out hJz.out hJs.out rfl .i64 .i64 _ _ n rfl rfl rfl rfl hJb (by unfold maxLen; omega) ?_; intro w1 hP1 hG1
       have hsz1 := hG1.size
       have hB1 : Below w.heap.size w w1 := (Below.refl w.heap.size w).grown hG1 (Nat.le_refl _) (by simp)
       have hM2 := MpM.made w1
       have hP2 := hP1.block (w' := w1.alloc (.map #[] 0)) (Below.heap_alloc w1 _ _ hP1.lt)
       have hP3 := hP2.block (w' := (w1.alloc (.map #[] 0)).alloc (.cells #[.slice (some ⟨w.heap.size, 0, none⟩) n n, .map (some w1.heap.size)] 68)) (Below.heap_alloc _ _ _ hP2.lt)
       have hM3 := hM2.alloc (.cells #[.slice (some ⟨w.heap.size, 0, none⟩) n n, .map (some w1.heap.size)] 68)
       have hR3 := Row.made (w1.alloc (.map #[] 0)) 68 [.slice (some ⟨w.heap.size, 0, none⟩) n n, .map (some w1.heap.size)]
       have hB3 := (hB1.alloc hsz1 (.map #[] 0)).alloc (by simp; omega) (.cells #[.slice (some ⟨w.heap.size, 0, none⟩) n n, .map (some w1.heap.size)] 68)
       have hz3 : (w1.alloc (.map #[] 0)).heap.size = w1.heap.size + 1 := (by simp)
       have hS3 : SysKA ((w1.alloc (.map #[] 0)).alloc (.cells #[.slice (some ⟨w.heap.size, 0, none⟩) n n, .map (some w1.heap.size)] 68)) w.heap.size (w1.alloc (.map #[] 0)).heap.size w.heap.size w1.heap.size n 0 (fun _ => snil) (fun _ _ => none) (KS.begin (uK u 0)) :=
         ⟨hR3, hP3.congr (fun i c hi hc => (by
           have hc' : c = 0 ∨ c = 1 ∨ c = 2 := (by omega)
           rcases hc' with rfl | rfl | rfl
           · show Value.int .i64 (uK u 0 i : Int) = _
             unfold uK
             rw [if_neg (by omega)]; rfl
           · rfl
           · rfl)), fun i _ => QueT.nil _ _ _, hM3, fun i j _ _ => QueT.nil _ _ _, fun i j _ _ _ => .inl rfl, fun _ _ _ _ _ => .inl rfl, fun _ _ _ hf => (by cases hf), (by omega), Nat.le_refl _, hsz1⟩
       rw [hz3] at hS3
       have hini : Hid (SysK ((w1.alloc (.map #[] 0)).alloc (.cells #[.slice (some ⟨w.heap.size, 0, none⟩) n n, .map (some w1.heap.size)] 68)) w.heap.size (w1.heap.size + 1) w.heap.size w1.heap.size n 0 (KS.begin (uK u 0))) := ⟨_, _, hS3⟩
       have hBH := Lib.hid hB3
       clear hP1 hG1 hB1 hM2 hP2 hP3 hM3 hR3 hB3 hsz1 hS3))
  have hini2 := hini.out
  have hB2 := hBH.out
  generalize (w1.alloc (.map #[] 0)).alloc (.cells #[.slice (some ⟨w.heap.size, 0, none⟩) n n, .map (some w1.heap.size)] 68) = w3 at *
  clear hini hBH hz3
  generalize hs' : w1.heap.size + 1 = s at *
  generalize w1.heap.size = M at *
  generalize hB : w.heap.size = B at *
  have hBH := Lib.hid hB
  clear hs' hB
  go_loopw [14] (fun t wr => ∃ k : Nat, k ≤ n ∧ t = .int .i64 k ∧ SysK wr B s B M n 0 (KS.begin (uK u k)) ∧ Below B w wr) (fun t _ => n - (intOf t).toNat)
  case atStart => exact ⟨0, Nat.zero_le _, rfl, hini2, hB2⟩
  case round =>
    clear hini2 hB2
    obtain ⟨k, hk, rfl, hS, hBw⟩ := hrel
    by_cases hlt : k < n
    · have hkI : (k : Int) < (n : Int) := by omega
      have c0 := (hBw.cell (p := ⟨b, off + k, none⟩) hb).trans (hcH.out k hlt)
      obtain ⟨D, f, hA⟩ := hS
      obtain ⟨s0, s1⟩ := hA.cells
      obtain ⟨p0, p1, p2⟩ := hA.prc hlt
      have f0 := hA.prs.frozen (k * 3)
      have hA2 := hA.setPtr hlt (u k)
      rw [uK_next] at hA2
      have hnx : Hid (SysK (wr.setCell ⟨B, k * 3, none⟩ (.int .i64 (u k : Int))) B s B M n 0 (KS.begin (uK u (k + 1))) ∧ Below B w (wr.setCell ⟨B, k * 3, none⟩ (.int .i64 (u k : Int)))) := ⟨⟨_, _, hA2⟩, hBw.setCell (p := ⟨B, k * 3, none⟩) (Nat.le_refl _) _⟩
      clear hA hA2 hBw s1 p1 p2
      generalize (u k : Int) = z at *
      generalize KS.begin (uK u k) = S0 at *
      go_wp2_with fail
      go_roundw
      case rel => exact ⟨k + 1, by omega, by go_num, hnx.out.1, hnx.out.2⟩
      case measure => simp [intOf]; omega
    · have hkn : k = n := by omega
      subst hkn
      have hfin : Hid (SysK wr B s B M k 0 (KS.begin u)) := hS.begin_congr fun i hi => by unfold uK; rw [if_pos hi]
      clear hS
      go_wp2_with fail
      go_ret
      exact ⟨s, B, M, rfl, by rw [hBH.out]; exact hfin.out, by rw [hBH.out]; exact hBw⟩

#print axioms start_any
end Go.Proofs.Ytejckoffllhjcaa
