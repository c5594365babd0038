/-
  The contract of tick.numbers.
-/
import Derived.Test.YtiokfehckhbnaaaRows
import Derived.Test.YtiokfehckhbnaaaNat
import Derived.KernelRfl
namespace Go.Proofs.Ytiokfehckhbnaaa
open Go.RowKit Go.Maps

theorem info3 : (Try.prog.info? 3).map (fun i => (i.zero, i.size, i.bytes)) = some (some (.int .i64 0), 1, 8) := by kernel_rfl

/-- The numbers below k, and zeros. -/
def upto (k : Nat) : Nat → Nat := fun j => if j < k then j else 0
theorem upto_step (k : Nat) : upd (upto k) k k = upto (k + 1) := by
  funext j
  unfold upd upto
  by_cases h : j = k
  · subst h; rw [if_pos rfl, if_pos (by omega)]
  · rw [if_neg h]
    by_cases h1 : j < k
    · rw [if_pos h1, if_pos (by omega)]
    · rw [if_neg h1, if_neg (by omega)]

def NumRel (w : World) (c k : Nat) (wr : World) : Prop := NatRow wr w.heap.size c (upto k) ∧ Below w.heap.size w wr

set_option maxHeartbeats 800000 in
theorem numbers_any (c : Nat) (w : World) (hc : c ≤ 30) :
    Calls Try.prog 24 #[.int .i64 c] w fun e w' => e = .returned (.slice (some ⟨w.heap.size, 0, none⟩) c c) ∧ NatRow w' w.heap.size c (fun j => j) ∧ Below w.heap.size w w' := by
  obtain ⟨i0, hi0, hz0, hz1, hz2⟩ := info_parts info3
  have hz2' : i0.bytes * c ≤ 281474976710656 := by rw [hz2]; omega
  have hHi := Lib.hid hi0; have hHz := Lib.hid hz0; have hHs := Lib.hid hz1
  clear hi0 hz0 hz1 hz2
  go_enter Try.func24, Try.ntmps24
  go_wp2_with (first
    | (at_make; refine wpList_make_row _ rfl _ _ 23 rfl 3 i0 (.int .i64 0) Try.underlying23 hHi.out hHz.out hHs.out rfl .i64 .i64 _ _ c rfl rfl rfl rfl hz2' (by unfold maxLen; omega) ?_; intro w1 hR1 hG1))
  have hB1 : Below w.heap.size w w1 := (Below.refl _ _).grown hG1 (Nat.le_refl _) (by simp)
  go_loopw [9] (fun i wr => ∃ k : Nat, k ≤ c ∧ i = .int .i64 k ∧ NumRel w c k wr) (fun i _ => c - (intOf i).toNat)
  case atStart =>
    refine ⟨0, Nat.zero_le _, rfl, ?_, hB1⟩
    rw [natRow_zero] at hR1
    exact Row.block hR1 rfl
  case round =>
    obtain ⟨k, hk, rfl, hR, hB⟩ := hrel
    by_cases hlt : k < c
    · have hcell := hR.at_ hlt
      have hfro := Row.frozen hR k
      have hn := NatRow.put hR k k
      rw [upto_step] at hn
      have hBn : Below w.heap.size w (wr.setCell ⟨w.heap.size, k, none⟩ (.int .i64 (k : Int))) := hB.setCell (p := ⟨w.heap.size, k, none⟩) (Nat.le_refl _) _
      generalize upto k k = v at *
      go_wp2_with fail
      go_roundw
      case rel => exact ⟨k + 1, by omega, by go_num, hn, hBn⟩
      case measure => simp [intOf]; omega
    · have hkc : k = c := by omega
      subst hkc
      have hR2 : NatRow wr w.heap.size k (fun j => j) := hR.congr fun j hj => by simp [upto, hj]
      go_wp2_with fail
      go_ret
      exact ⟨rfl, hR2, hB⟩

#print axioms numbers_any
end Go.Proofs.Ytiokfehckhbnaaa
