/-
  The contract of cut.covers.
-/
import Derived.Test.YtpofmhlmaejmoaaRows
import Derived.Test.YtpofmhlmaejmoaaVPure
import Derived.KernelRfl
namespace Go.Proofs.Ytpofmhlmaejmoaa
open Go.RowKit Go.Maps

/-- No number of s is greater than c's. -/
def coversB (c s : List Int) : Bool := (List.range s.length).all fun i => decide (vat s i ≤ vat c i)
theorem coversB_iff (c s : List Int) : coversB c s = true ↔ ∀ i, i < s.length → vat s i ≤ vat c i := by
  unfold coversB
  rw [List.all_eq_true]
  simp only [List.mem_range, decide_eq_true_eq]

set_option maxHeartbeats 800000 in
theorem covers_any (A1 A2 : Option Addr) (c1 c2 : Nat) (c s : List Int) (w : World) (h1 : Nums w w.heap.size A1 c) (h2 : Nums w w.heap.size A2 s) (hl : s.length ≤ c.length) (hc : c.length ≤ 1000) (C : Bool) (hC : Hid (C = true ↔ ∀ i, i < s.length → vat s i ≤ vat c i)) :
    Calls Try.prog 35 #[.slice A1 c.length c1, .slice A2 s.length c2] w fun e w' => e = .returned (.bool C) ∧ w = w' := by
  go_enter Try.func35, Try.ntmps35
  go_wp2
  go_loop [9] (fun i => ∃ k : Nat, k ≤ s.length ∧ i = .int .i64 k ∧ ∀ j, j < k → vat s j ≤ vat c j) (fun i => s.length - (intOf i).toNat)
  case atStart => exact ⟨0, Nat.zero_le _, rfl, fun j hj => by omega⟩
  case round =>
    obtain ⟨k, hk, rfl, hr⟩ := hrel
    have hrH := Lib.hid hr
    clear hr
    by_cases hlt : k < s.length
    · obtain ⟨b, off, rfl, hb, hcs⟩ := h2 (by omega)
      obtain ⟨b', off', rfl, hb', hcs'⟩ := h1 (by omega)
      have x1 := hcs k hlt
      have x2 := hcs' k (by omega)
      rw [← vat_get s hlt] at x1
      rw [← vat_get c (by omega)] at x2
      clear hcs hcs'
      have hkI : (k : Int) < (c.length : Int) := by omega
      by_cases hle : vat s k ≤ vat c k
      · have hrn : Hid (∀ j, j < k + 1 → vat s j ≤ vat c j) := fun j hj => by
          by_cases e : j = k
          · rw [e]; exact hle
          · exact hrH.out j (by omega)
        generalize vat s k = u at *
        generalize vat c k = v at *
        have hd : decide (v < u) = false := by simp; omega
        have hd' : ¬ (v < u) := by omega
        go_wp2
        go_round
        case rel => exact ⟨k + 1, by omega, by go_num, hrn.out⟩
        case measure => simp [intOf]; omega
      · have hf : Hid (C = false) := by
          unfold Hid
          rw [← Bool.not_eq_true, hC.out]
          intro h
          exact hle (h k hlt)
        generalize vat s k = u at *
        generalize vat c k = v at *
        have hd : v < u := by omega
        go_wp2
        go_ret
        exact ⟨by rw [hf.out]; rfl, rfl⟩
    · have hkl : k = s.length := by omega
      have hf : Hid (C = true) := by
        unfold Hid
        rw [hC.out]
        intro i hi
        exact hrH.out i (by omega)
      go_wp2
      go_ret
      exact ⟨by rw [hf.out]; rfl, rfl⟩

#print axioms covers_any
end Go.Proofs.Ytpofmhlmaejmoaa
