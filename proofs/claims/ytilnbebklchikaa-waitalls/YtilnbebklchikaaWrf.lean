/-
  The contracts of beaconryref.Reach, StuckAll, StuckAny.
-/
import Derived.Test.YtilnbebklchikaaWck
namespace Go.Proofs.Ytilnbebklchikaa
open Go.RowKit Go.Maps
set_option linter.unusedVariables false

abbrev rpW : Nat → Nat → Bool := fun j s => s.testBit j
set_option maxHeartbeats 1600000 in
theorem reach_any (cap : Nat) (w : World) (A : Option Addr) (l : List Nat) (hq : Wds w w.heap.size A l) (hV : WV l) (i : Nat) (hi : i < l.length) :
    Calls Try.prog 15 #[.slice A l.length cap, .int .i64 (i : Int)] w fun e w' => e = .returned (.int .u32 (reach l i : Int)) ∧ w = w' := by
  have h64 := Nat.pow_le_pow_right (n := 2) (by omega) hV.six
  have h6 := hV.six
  have hiI : (i : Int) < (l.length : Int) := by omega
  obtain ⟨b, off, rfl, hb, hc⟩ := hq (by omega)
  have c0 := hc i hi
  have hcH := Lib.hid hc
  have hfin : Hid (∀ k, rnds rpW (wat l) l.length k (wat l i) < 2 ^ l.length) := fun k => rnds_lt (fun j _ => hV.small j) (hV.small i) k
  have hlast : Hid (reach l i = rnds rpW (wat l) l.length l.length (wat l i)) := rfl
  have hsm := Lib.hid hV.small
  clear hq hV hc
  go_enter Try.func15, Try.ntmps15
  go_wp2_with fail
  go_loop [6, 5] (fun t s => ∃ k : Nat, k ≤ l.length ∧ t = .int .i64 k ∧ s = .int .u32 (rnds rpW (wat l) l.length k (wat l i) : Int)) (fun t _ => l.length - (intOf t).toNat)
  case atStart => exact ⟨0, Nat.zero_le _, rfl, rfl⟩
  case round =>
    obtain ⟨k, hk, rfl, rfl⟩ := hrel
    have hlt0 := hfin.out k
    have hnext : Hid (rnds rpW (wat l) l.length (k + 1) (wat l i) = rnd rpW (wat l) l.length (rnds rpW (wat l) l.length k (wat l i))) := rfl
    clear c0
    by_cases hlt : k < l.length
    · have hkI : (k : Int) < (l.length : Int) := by omega
      generalize rnds rpW (wat l) l.length k (wat l i) = S at *
      have hrl : Hid (∀ j, j ≤ l.length → rnd rpW (wat l) j S < 2 ^ l.length) := fun j hj => rnd_lt (fun j _ => hsm.out j) hj hlt0
      go_wp2_with fail
      go_loop [7, 5] (fun t s => ∃ j : Nat, j ≤ l.length ∧ t = .int .i64 j ∧ s = .int .u32 (rnd rpW (wat l) j S : Int)) (fun t _ => l.length - (intOf t).toNat)
      case atStart => exact ⟨0, Nat.zero_le _, rfl, rfl⟩
      case round =>
        obtain ⟨j, hj, rfl, rfl⟩ := hrel
        have hT := hrl.out j hj
        by_cases hjt : j < l.length
        · have hjI : (j : Int) < (l.length : Int) := by omega
          have d0 := hcH.out j hjt
          have hxs := hsm.out j
          have hn2 : Hid (rnd rpW (wat l) (j + 1) S = if (rnd rpW (wat l) j S).testBit j = true then rnd rpW (wat l) j S ||| wat l j else rnd rpW (wat l) j S) := rfl
          generalize rnd rpW (wat l) j S = T at *
          have hcc := Lib.hid (bit_any T j w (by omega) (by omega))
          cases e : T.testBit j with
          | true =>
            have hsv := Lib.hid (u32_or_nat T (wat l j) (by omega) (by omega))
            have hT1 : Hid (rnd rpW (wat l) (j + 1) S = T ||| wat l j) := by unfold Hid; rw [hn2.out, if_pos e]
            rw [e] at hcc
            clear hn2 e
            generalize wat l j = x at *
            go_wp2_with fail
            refine hcc.out.mono ?_
            rintro e w1 ⟨rfl, rfl⟩
            go_wp2_with fail
            go_round
            case rel => exact ⟨j + 1, by omega, by go_num, by rw [hT1.out, ← hsv.out]⟩
            case measure => simp [intOf]; omega
          | false =>
            have hT1 : Hid (rnd rpW (wat l) (j + 1) S = T) := by unfold Hid; rw [hn2.out, if_neg (by rw [e]; decide)]
            rw [e] at hcc
            clear hn2 e
            generalize wat l j = x at *
            go_wp2_with fail
            refine hcc.out.mono ?_
            rintro e w1 ⟨rfl, rfl⟩
            go_wp2_with fail
            go_round
            case rel => exact ⟨j + 1, by omega, by go_num, by rw [hT1.out]⟩
            case measure => simp [intOf]; omega
        · have hjn : j = l.length := by omega
          subst hjn
          go_wp2_with fail
          go_round
          case rel => exact ⟨k + 1, by omega, by go_num, by rw [hnext.out]⟩
          case measure => simp [intOf]; omega
    · have hkn : k = l.length := by omega
      subst hkn
      clear hnext
      go_wp2_with fail
      go_ret
      exact ⟨by rw [hlast.out]; rfl, rfl⟩

/-- A bit is set, or not. -/
def orI (s i : Nat) (b : Bool) : Nat := if b = true then s ||| 2 ^ i else s
theorem orI_or (s i : Nat) (b : Bool) : orI s i b ||| 2 ^ i = orI s i true := by
  cases b with
  | false => rfl
  | true =>
    show (s ||| 2 ^ i) ||| 2 ^ i = s ||| 2 ^ i
    rw [Nat.or_assoc, Nat.or_self]
theorem orI_lt {s i : Nat} (hs : s < 2 ^ i) (hi : i < 6) (b : Bool) : orI s i b < 64 := by
  have h1 : 2 ^ (i + 1) ≤ 64 := Nat.pow_le_pow_right (n := 2) (by omega) (show i + 1 ≤ 6 by omega)
  have h2 : 2 ^ i < 2 ^ (i + 1) := Nat.pow_lt_pow_right (by omega) (by omega)
  unfold orI
  split
  · have := Nat.or_lt_two_pow (n := i + 1) (x := s) (y := 2 ^ i) (by omega) h2
    omega
  · omega

set_option maxHeartbeats 1600000 in
theorem stuckAll_any (cap : Nat) (w : World) (A : Option Addr) (l : List Nat) (hq : Wds w w.heap.size A l) (hV : WV l) :
    Calls Try.prog 11 #[.slice A l.length cap] w fun e w' => e = .returned (.int .u32 (wordB l.length (gAll l) : Int)) ∧ w = w' := by
  have h64 := Nat.pow_le_pow_right (n := 2) (by omega) hV.six
  have h6 := hV.six
  have hre : Hid (∀ i, i < l.length → Calls Try.prog 15 #[.slice A l.length cap, .int .i64 (i : Int)] w fun e w' => e = .returned (.int .u32 (reach l i : Int)) ∧ w = w') := fun i hi => reach_any cap w A l hq hV i hi
  have hrl : Hid (∀ i, reach l i < 2 ^ l.length) := reach_lt hV
  clear hq hV
  go_enter Try.func11, Try.ntmps11
  go_wp2_with fail
  go_loop [4, 3] (fun t s => ∃ i : Nat, i ≤ l.length ∧ t = .int .i64 i ∧ s = .int .u32 (wordB i (gAll l) : Int)) (fun t _ => l.length - (intOf t).toNat)
  case atStart => exact ⟨0, Nat.zero_le _, rfl, rfl⟩
  case round =>
    obtain ⟨i, hi, rfl, rfl⟩ := hrel
    by_cases hlt : i < l.length
    · have hiI : (i : Int) < (l.length : Int) := by omega
      have hcr := Lib.hid (hre.out i hlt)
      have hri := hrl.out i
      have hset := Lib.hid (set_val (reach l i) i (by omega) (by omega))
      have hol : reach l i ||| 2 ^ i < 2 ^ l.length := Nat.or_lt_two_pow hri (two_pow_lt i hlt)
      have hW : wordB i (gAll l) < 2 ^ i := wordB_lt i _
      have hdef : Hid (∀ j, sAll l i j = ((reach l i ||| 2 ^ i).testBit j && (reach l j).testBit j)) := fun j => rfl
      have hnext : Hid (wordB (i + 1) (gAll l) = orI (wordB i (gAll l)) i (anyB (sAll l i) l.length)) := rfl
      have h0 : Hid (wordB i (gAll l) = orI (wordB i (gAll l)) i (anyB (sAll l i) 0)) := rfl
      generalize wordB i (gAll l) = W at *
      generalize reach l i ||| 2 ^ i = U at *
      generalize reach l i = V at *
      go_wp2_with fail
      refine hcr.out.mono ?_
      rintro e w1 ⟨rfl, rfl⟩
      go_wp2_with fail
      try rw [hset.out]
      go_loop [6, 3] (fun t s => ∃ j : Nat, j ≤ l.length ∧ t = .int .i64 j ∧ s = .int .u32 (orI W i (anyB (sAll l i) j) : Int)) (fun t _ => l.length - (intOf t).toNat)
      case atStart => exact ⟨0, Nat.zero_le _, rfl, by rw [← h0.out]⟩
      case round =>
        obtain ⟨j, hj, rfl, rfl⟩ := hrel
        by_cases hjt : j < l.length
        · have hjI : (j : Int) < (l.length : Int) := by omega
          have hT := orI_lt hW (by omega) (anyB (sAll l i) j)
          have hn2 : Hid (anyB (sAll l i) (j + 1) = (anyB (sAll l i) j || (U.testBit j && (reach l j).testBit j))) := by
            unfold Hid
            rw [← hdef.out j]
            rfl
          have hb1 := Lib.hid (bit_any U j w (by omega) (by omega))
          have hcr2 := Lib.hid (hre.out j hjt)
          have hrj := hrl.out j
          have hb2 := Lib.hid (bit_any (reach l j) j w (by omega) (by omega))
          have hoo := Lib.hid (orI_or W i (anyB (sAll l i) j))
          generalize anyB (sAll l i) j = X at *
          generalize reach l j = Y at *
          have hsv := Lib.hid (set_val (orI W i X) i (by omega) (by omega))
          rw [hoo.out] at hsv
          generalize hT0 : orI W i X = T at *
          cases e1 : U.testBit j with
          | false =>
            have hT1 : Hid (orI W i (anyB (sAll l i) (j + 1)) = T) := by unfold Hid; rw [hn2.out, e1, Bool.false_and, Bool.or_false, hT0]
            rw [e1] at hb1
            clear hn2 e1 hT0 hoo
            go_wp2_with fail
            refine hb1.out.mono ?_
            rintro e w1 ⟨rfl, rfl⟩
            go_wp2_with fail
            go_round
            case rel => exact ⟨j + 1, by omega, by go_num, by rw [hT1.out]⟩
            case measure => simp [intOf]; omega
          | true =>
            rw [e1] at hb1
            cases e2 : Y.testBit j with
            | false =>
              have hT1 : Hid (orI W i (anyB (sAll l i) (j + 1)) = T) := by unfold Hid; rw [hn2.out, e1, e2, Bool.and_false, Bool.or_false, hT0]
              rw [e2] at hb2
              clear hn2 e1 e2 hT0 hoo
              go_wp2_with fail
              refine hb1.out.mono ?_
              rintro e w1 ⟨rfl, rfl⟩
              go_wp2_with fail
              refine hcr2.out.mono ?_
              rintro e w1 ⟨rfl, rfl⟩
              go_wp2_with fail
              refine hb2.out.mono ?_
              rintro e w1 ⟨rfl, rfl⟩
              go_wp2_with fail
              go_round
              case rel => exact ⟨j + 1, by omega, by go_num, by rw [hT1.out]⟩
              case measure => simp [intOf]; omega
            | true =>
              have hT1 : Hid (orI W i (anyB (sAll l i) (j + 1)) = orI W i true) := by unfold Hid; rw [hn2.out, e1, e2, Bool.and_true, Bool.or_true]
              rw [e2] at hb2
              clear hn2 e1 e2 hT0 hoo
              go_wp2_with fail
              refine hb1.out.mono ?_
              rintro e w1 ⟨rfl, rfl⟩
              go_wp2_with fail
              refine hcr2.out.mono ?_
              rintro e w1 ⟨rfl, rfl⟩
              go_wp2_with fail
              refine hb2.out.mono ?_
              rintro e w1 ⟨rfl, rfl⟩
              go_wp2_with fail
              go_round
              case rel => exact ⟨j + 1, by omega, by go_num, by rw [hT1.out, ← hsv.out]⟩
              case measure => simp [intOf]; omega
        · have hjn : j = l.length := by omega
          subst hjn
          go_wp2_with fail
          go_round
          case rel => exact ⟨i + 1, by omega, by go_num, by rw [hnext.out]⟩
          case measure => simp [intOf]; omega
    · have hin : i = l.length := by omega
      subst hin
      go_wp2_with fail
      go_ret
      exact ⟨rfl, rfl⟩

set_option maxHeartbeats 1600000 in
theorem stuckAny_any (cap : Nat) (w : World) (A : Option Addr) (l : List Nat) (hq : Wds w w.heap.size A l) (hV : WV l) :
    Calls Try.prog 13 #[.slice A l.length cap] w fun e w' => e = .returned (.int .u32 (wordB l.length (gAny l) : Int)) ∧ w = w' := by
  have h64 := Nat.pow_le_pow_right (n := 2) (by omega) hV.six
  have h6 := hV.six
  have hre : Hid (∀ i, i < l.length → Calls Try.prog 15 #[.slice A l.length cap, .int .i64 (i : Int)] w fun e w' => e = .returned (.int .u32 (reach l i : Int)) ∧ w = w') := fun i hi => reach_any cap w A l hq hV i hi
  have hrl : Hid (∀ i, reach l i < 2 ^ l.length) := reach_lt hV
  obtain ⟨b, off, rfl, hb, hc⟩ := hq (by have := hV.one; omega)
  have hcH := Lib.hid hc
  clear hq hV hc
  go_enter Try.func13, Try.ntmps13
  go_wp2_with fail
  go_loop [4, 3] (fun t s => ∃ i : Nat, i ≤ l.length ∧ t = .int .i64 i ∧ s = .int .u32 (wordB i (gAny l) : Int)) (fun t _ => l.length - (intOf t).toNat)
  case atStart => exact ⟨0, Nat.zero_le _, rfl, rfl⟩
  case round =>
    obtain ⟨i, hi, rfl, rfl⟩ := hrel
    by_cases hlt : i < l.length
    · have hiI : (i : Int) < (l.length : Int) := by omega
      have hcr := Lib.hid (hre.out i hlt)
      have hri := hrl.out i
      have hset := Lib.hid (set_val (reach l i) i (by omega) (by omega))
      have hol : reach l i ||| 2 ^ i < 2 ^ l.length := Nat.or_lt_two_pow hri (two_pow_lt i hlt)
      have hW : wordB i (gAny l) < 2 ^ i := wordB_lt i _
      have hW2 : 2 ^ i < 2 ^ l.length := two_pow_lt i hlt
      have hdef : Hid (∀ j, sAny l i j = ((reach l i ||| 2 ^ i).testBit j && wat l j == 0)) := fun j => rfl
      have hnext : Hid (wordB (i + 1) (gAny l) = orI (wordB i (gAny l)) i (!anyB (sAny l i) l.length)) := rfl
      have hsv := Lib.hid (set_val (wordB i (gAny l)) i (by omega) (by omega))
      generalize wordB i (gAny l) = W at *
      generalize reach l i ||| 2 ^ i = U at *
      generalize reach l i = V at *
      go_wp2_with fail
      refine hcr.out.mono ?_
      rintro e w1 ⟨rfl, rfl⟩
      go_wp2_with fail
      try rw [hset.out]
      go_loop [7, 6] (fun t s => ∃ j : Nat, j ≤ l.length ∧ t = .int .i64 j ∧ s = .bool (anyB (sAny l i) j)) (fun t _ => l.length - (intOf t).toNat)
      case atStart => exact ⟨0, Nat.zero_le _, rfl, rfl⟩
      case round =>
        obtain ⟨j, hj, rfl, rfl⟩ := hrel
        by_cases hjt : j < l.length
        · have hjI : (j : Int) < (l.length : Int) := by omega
          have hn2 : Hid (anyB (sAny l i) (j + 1) = (anyB (sAny l i) j || (U.testBit j && wat l j == 0))) := by
            unfold Hid
            rw [← hdef.out j]
            rfl
          have hb1 := Lib.hid (bit_any U j w (by omega) (by omega))
          have d0 := hcH.out j hjt
          generalize anyB (sAny l i) j = X at *
          generalize wat l j = x at *
          cases X with
          | true =>
            have hT1 : Hid (anyB (sAny l i) (j + 1) = true) := by unfold Hid; rw [hn2.out]; rfl
            clear hn2
            go_wp2_with fail
            go_round
            case rel => exact ⟨j + 1, by omega, by go_num, by rw [hT1.out]⟩
            case measure => simp [intOf]; omega
          | false =>
            cases e1 : U.testBit j with
            | false =>
              have hT1 : Hid (anyB (sAny l i) (j + 1) = false) := by unfold Hid; rw [hn2.out, e1]; rfl
              rw [e1] at hb1
              clear hn2 e1
              go_wp2_with fail
              refine hb1.out.mono ?_
              rintro e w1 ⟨rfl, rfl⟩
              go_wp2_with fail
              go_round
              case rel => exact ⟨j + 1, by omega, by go_num, by rw [hT1.out]⟩
              case measure => simp [intOf]; omega
            | true =>
              rw [e1] at hb1
              by_cases hx : x = 0
              · have hT1 : Hid (anyB (sAny l i) (j + 1) = true) := by unfold Hid; rw [hn2.out, e1, hx]; rfl
                subst hx
                clear hn2 e1
                go_wp2_with fail
                refine hb1.out.mono ?_
                rintro e w1 ⟨rfl, rfl⟩
                go_wp2_with fail
                go_round
                case rel => exact ⟨j + 1, by omega, by go_num, by rw [hT1.out]⟩
                case measure => simp [intOf]; omega
              · have hT1 : Hid (anyB (sAny l i) (j + 1) = false) := by unfold Hid; rw [hn2.out, e1]; simpa using hx
                have hx1 : ((x : Int) == 0) = false := by simp; omega
                clear hn2 e1
                go_wp2_with fail
                refine hb1.out.mono ?_
                rintro e w1 ⟨rfl, rfl⟩
                go_wp2_with fail
                go_round
                case rel => exact ⟨j + 1, by omega, by go_num, by rw [hT1.out]⟩
                case measure => simp [intOf]; omega
        · have hjn : j = l.length := by omega
          subst hjn
          generalize anyB (sAny l i) l.length = X at *
          cases X with
          | true =>
            go_wp2_with fail
            go_round
            case rel => exact ⟨i + 1, by omega, by go_num, by rw [hnext.out]; rfl⟩
            case measure => simp [intOf]; omega
          | false =>
            go_wp2_with fail
            go_round
            case rel => exact ⟨i + 1, by omega, by go_num, by rw [hnext.out]; show _ = Value.int .u32 ((W ||| 2 ^ i : Nat) : Int); rw [← hsv.out]⟩
            case measure => simp [intOf]; omega
    · have hin : i = l.length := by omega
      subst hin
      go_wp2_with fail
      go_ret
      exact ⟨rfl, rfl⟩

#print axioms reach_any
#print axioms stuckAll_any
#print axioms stuckAny_any
end Go.Proofs.Ytilnbebklchikaa
