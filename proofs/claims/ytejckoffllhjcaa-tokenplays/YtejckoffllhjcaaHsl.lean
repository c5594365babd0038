/-
  The contract of beaconryref.Has (at slices up to a thousand).
-/
import Derived.Test.YtejckoffllhjcaaRows
import Derived.Test.YtejckoffllhjcaaWords
import Derived.KernelRfl
namespace Go.Proofs.Ytejckoffllhjcaa
open Go.RowKit Go.Maps

set_option maxHeartbeats 400000 in
theorem hasL_any (A : Option Addr) (cap : Nat) (o : List Int) (x : Int) (w : World) (hE : Nums w w.heap.size A o) (hl : o.length ≤ 1000) (C : Bool) (hC : Hid (C = true ↔ x ∈ o)) :
    Calls Try.prog 26 #[.slice A o.length cap, .int .i64 x] w fun e w' => e = .returned (.bool C) ∧ w = w' := by
  go_enter Try.func26, Try.ntmps26
  go_wp2
  go_loop [9] (fun i => ∃ k : Nat, k ≤ o.length ∧ i = .int .i64 k ∧ Hid (∀ j, (h : j < o.length) → j < k → o[j] ≠ x)) (fun i => o.length - (intOf i).toNat)
  case atStart => exact ⟨0, Nat.zero_le _, rfl, fun _ _ h => absurd h (Nat.not_lt_zero _)⟩
  case round =>
    obtain ⟨k, hk, rfl, hr⟩ := hrel
    by_cases hlt : k < o.length
    · obtain ⟨b, off, rfl, hb, hc⟩ := hE (by omega)
      have c0 := hc k hlt
      clear hc
      by_cases he : o[k] = x
      · have hf : Hid (C = true) := hC.out.2 (by rw [← he]; exact List.getElem_mem hlt)
        generalize o[k] = y at *
        have hb1 : (x == y) = true := by simp [he]
        clear he
        go_wp2
        go_ret
        exact ⟨by rw [hf.out]; rfl, rfl⟩
      · have hn : Hid (∀ j, (h : j < o.length) → j < k + 1 → o[j] ≠ x) := fun j h hj => by
          by_cases e : j = k
          · subst e; exact he
          · exact hr.out j h (by omega)
        generalize o[k] = y at *
        have hb1 : (x == y) = false := by simp; exact fun h => he h.symm
        clear he
        go_wp2
        go_round
        case rel => exact ⟨k + 1, by omega, by go_num, hn⟩
        case measure => simp [intOf]; omega
    · have hf : Hid (C = false) := by
        unfold Hid
        rw [← Bool.not_eq_true, hC.out]
        intro h
        obtain ⟨j, hj, e⟩ := List.getElem_of_mem h
        exact hr.out j hj (by omega) e
      go_wp2
      go_ret
      exact ⟨by rw [hf.out]; rfl, rfl⟩

#print axioms hasL_any
end Go.Proofs.Ytejckoffllhjcaa
