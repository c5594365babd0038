/-
  The contract of beaconryref.Reach, for seats without package wait.
-/
import Derived.Test.YtieicimoolegoaaWme
namespace Go.Proofs.Ytieicimoolegoaa
open Go.RowKit Go.Maps
set_option linter.unusedVariables false

abbrev rpW : Nat → Nat → Bool := fun j s => s.testBit j
set_option maxHeartbeats 1600000 in
theorem reach_any (cap : Nat) (w : World) (A : Option Addr) (l : List Nat) (hq : Wds w w.heap.size A l) (hV : WV l) (i : Nat) (hi : i < l.length) :
    Calls Try.prog 28 #[.slice A l.length cap, .int .i64 (i : Int)] w fun e w' => e = .returned (.int .u32 (reach l i : Int)) ∧ w = w' := by
  have h64 := Nat.pow_le_pow_right (n := 2) (by omega) hV.six
  have h6 := hV.six
  have hiI : (i : Int) < (l.length : Int) := by omega
  obtain ⟨b, off, rfl, hb, hc⟩ := hq (by omega)
  have c0 := hc i hi
  have hcH := Lib.hid hc
  have hfin : Hid (∀ k, rnds rpW (wat l) l.length k (wat l i) < 2 ^ l.length) := fun k => rnds_lt (fun j _ => hV.small j) (hV.small i) k
  have hlast : Hid (reach l i = rnds rpW (wat l) l.length l.length (wat l i)) := rfl
  have hsm := Lib.hid hV.small
  clear hq hV hc
  go_enter Try.func28, Try.ntmps28
  go_wp2_with fail
  go_loop [6, 5] (fun t s => ∃ k : Nat, k ≤ l.length ∧ t = .int .i64 k ∧ s = .int .u32 (rnds rpW (wat l) l.length k (wat l i) : Int)) (fun t _ => l.length - (intOf t).toNat)
  case atStart => exact ⟨0, Nat.zero_le _, rfl, rfl⟩
  case round =>
    obtain ⟨k, hk, rfl, rfl⟩ := hrel
    have hlt0 := hfin.out k
    have hnext : Hid (rnds rpW (wat l) l.length (k + 1) (wat l i) = rnd rpW (wat l) l.length (rnds rpW (wat l) l.length k (wat l i))) := rfl
    clear c0
    by_cases hlt : k < l.length
    · have hkI : (k : Int) < (l.length : Int) := by omega
      generalize rnds rpW (wat l) l.length k (wat l i) = S at *
      have hrl : Hid (∀ j, j ≤ l.length → rnd rpW (wat l) j S < 2 ^ l.length) := fun j hj => rnd_lt (fun j _ => hsm.out j) hj hlt0
      go_wp2_with fail
      go_loop [7, 5] (fun t s => ∃ j : Nat, j ≤ l.length ∧ t = .int .i64 j ∧ s = .int .u32 (rnd rpW (wat l) j S : Int)) (fun t _ => l.length - (intOf t).toNat)
      case atStart => exact ⟨0, Nat.zero_le _, rfl, rfl⟩
      case round =>
        obtain ⟨j, hj, rfl, rfl⟩ := hrel
        have hT := hrl.out j hj
        by_cases hjt : j < l.length
        · have hjI : (j : Int) < (l.length : Int) := by omega
          have d0 := hcH.out j hjt
          have hxs := hsm.out j
          have hn2 : Hid (rnd rpW (wat l) (j + 1) S = if (rnd rpW (wat l) j S).testBit j = true then rnd rpW (wat l) j S ||| wat l j else rnd rpW (wat l) j S) := rfl
          generalize rnd rpW (wat l) j S = T at *
          have hcc := Lib.hid (bit_any T j w (by omega) (by omega))
          cases e : T.testBit j with
          | true =>
            have hsv := Lib.hid (u32_or_nat T (wat l j) (by omega) (by omega))
            have hT1 : Hid (rnd rpW (wat l) (j + 1) S = T ||| wat l j) := by unfold Hid; rw [hn2.out, if_pos e]
            rw [e] at hcc
            clear hn2 e
            generalize wat l j = x at *
            go_wp2_with fail
            refine hcc.out.mono ?_
            rintro e w1 ⟨rfl, rfl⟩
            go_wp2_with fail
            go_round
            case rel => exact ⟨j + 1, by omega, by go_num, by rw [hT1.out, ← hsv.out]⟩
            case measure => simp [intOf]; omega
          | false =>
            have hT1 : Hid (rnd rpW (wat l) (j + 1) S = T) := by unfold Hid; rw [hn2.out, if_neg (by rw [e]; decide)]
            rw [e] at hcc
            clear hn2 e
            generalize wat l j = x at *
            go_wp2_with fail
            refine hcc.out.mono ?_
            rintro e w1 ⟨rfl, rfl⟩
            go_wp2_with fail
            go_round
            case rel => exact ⟨j + 1, by omega, by go_num, by rw [hT1.out]⟩
            case measure => simp [intOf]; omega
        · have hjn : j = l.length := by omega
          subst hjn
          go_wp2_with fail
          go_round
          case rel => exact ⟨k + 1, by omega, by go_num, by rw [hnext.out]⟩
          case measure => simp [intOf]; omega
    · have hkn : k = l.length := by omega
      subst hkn
      clear hnext
      go_wp2_with fail
      go_ret
      exact ⟨by rw [hlast.out]; rfl, rfl⟩

#print axioms reach_any
end Go.Proofs.Ytieicimoolegoaa
