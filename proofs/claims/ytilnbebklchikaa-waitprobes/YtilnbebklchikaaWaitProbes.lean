/-
  The walk of the law beaconrylaw.WaitProbes.
-/
import Derived.Test.YtilnbebklchikaaWpr
import Derived.Test.YtilnbebklchikaaWrf
namespace Go.Proofs.Ytilnbebklchikaa
open Go.RowKit Go.Maps
set_option linter.unusedVariables false

set_option maxHeartbeats 3200000 in
theorem waitProbes_law (w : World) (A : Option Addr) (cap : Nat) (l : List Nat) (hE : Wds w w.heap.size A l) (hF : WFits l) (hc : l.length ≤ cap) (hl : l.length ≤ maxLen) (hs : l.length ≤ 35184372088832) (i : Int) (hi : I64 i) :
    Calls Try.prog 5 #[.slice A l.length cap, .int .i64 i] w fun e w' => e = .returned (.bool true) ∧ Below w.heap.size w w' := by
  have hpr := Lib.hid (probe_any cap w A l i hi hE hF hl)
  unfold ProRes at hpr
  have hck : Hid (∀ w1, Below w.heap.size w w1 → Calls Try.prog 10 #[.slice A l.length cap] w1 fun e w' => e = .returned (.int .i64 (waitCode l)) ∧ w1 = w') := fun w1 hB => waitCheck_any cap w1 A l ((hE.below hB).more hB.size) hF hl
  by_cases hV : WV l
  · have hcode := (waitCode_iff l).2 hV
    rw [hcode] at hck
    have h6 := hV.six
    have h6I : (l.length : Int) ≤ 6 := by omega
    by_cases hin : 0 ≤ i ∧ i < l.length
    · obtain ⟨j, rfl⟩ : ∃ j : Nat, i = (j : Int) := ⟨i.toNat, by omega⟩
      have hj : j < l.length := by omega
      have e1 : probeBack l j = (reach l j).testBit j := by unfold probeBack; rw [if_pos ⟨hV, hin⟩]; rfl
      have e2 : probeSent l j = sumD l (reach l j ||| 2 ^ j) l.length := by unfold probeSent; rw [if_pos ⟨hV, hin⟩]; rfl
      have e3 : probeCode l j = 0 := by unfold probeCode; rw [if_pos hV, if_pos hin]
      rw [e1, e2, e3] at hpr
      have h64 := Nat.pow_le_pow_right (n := 2) (by omega) h6
      have hrl := reach_lt hV j
      have hol : reach l j ||| 2 ^ j < 2 ^ l.length := Nat.or_lt_two_pow hrl (two_pow_lt j hj)
      have hset := Lib.hid (set_val (reach l j) j (by omega) (by omega))
      have hre : Hid (∀ w1, Below w.heap.size w w1 → Calls Try.prog 15 #[.slice A l.length cap, .int .i64 (j : Int)] w1 fun e w' => e = .returned (.int .u32 (reach l j : Int)) ∧ w1 = w') := fun w1 hB => reach_any cap w1 A l ((hE.below hB).more hB.size) hV j hj
      have hbt : Hid (∀ w1, Calls Try.prog 16 #[.int .u32 (reach l j : Int), .int .i64 (j : Int)] w1 fun e w' => e = .returned (.bool ((reach l j).testBit j)) ∧ w1 = w') := fun w1 => bit_any (reach l j) j w1 (by omega) (by omega)
      have hsz : Hid (∀ k w1, k < l.length → Calls Try.prog 17 #[.int .u32 (wat l k : Int)] w1 fun e w' => e = .returned (.int .i64 (degW l k : Int)) ∧ w1 = w') := fun k w1 hk => by
        rw [← degW_32 hV k]
        exact size_any (wat l k) w1 (hV.u32 k)
      have hsum : Hid (∀ k, sumD l (reach l j ||| 2 ^ j) k ≤ k * l.length) := fun k => sumD_le l _ k
      have hnx : Hid (∀ k, sumD l (reach l j ||| 2 ^ j) (k + 1) = sumD l (reach l j ||| 2 ^ j) k + if (reach l j ||| 2 ^ j).testBit k = true then degW l k else 0) := fun k => rfl
      have hjI : (j : Int) < (l.length : Int) := by omega
      have hEH := Lib.hid hE
      have hdg : Hid (∀ k, degW l k ≤ l.length) := degW_le l
      clear hE hF hV hcode e1 e2 e3
      generalize hU : reach l j ||| 2 ^ j = U at *
      generalize reach l j = V at *
      generalize hX : V.testBit j = X at *
      go_enter Try.func5, Try.ntmps5
      go_wp2_with fail
      refine hpr.out.mono ?_
      rintro e w1 ⟨rfl, hB1⟩
      have hck1 := Lib.hid (hck.out w1 hB1)
      have hre1 := Lib.hid (hre.out w1 hB1)
      have hbt1 := Lib.hid (hbt.out w1)
      have hE1 := Lib.hid (hEH.out.below hB1)
      clear hck hre hbt hpr hEH
      go_wp2_with fail
      refine hck1.out.mono ?_
      rintro e w2 ⟨rfl, rfl⟩
      go_wp2_with fail
      refine hre1.out.mono ?_
      rintro e w2 ⟨rfl, rfl⟩
      go_wp2_with fail
      try rw [hset.out]
      go_loop [11, 10] (fun t s => ∃ k : Nat, k ≤ l.length ∧ t = .int .i64 k ∧ s = .int .i64 (sumD l U k : Int)) (fun t _ => l.length - (intOf t).toNat)
      case atStart => exact ⟨0, Nat.zero_le _, rfl, rfl⟩
      case round =>
        obtain ⟨k, hk, rfl, rfl⟩ := hrel
        by_cases hlt : k < l.length
        · have hkI : (k : Int) < (l.length : Int) := by omega
          have hn2 := hnx.out k
          have hsk := hsum.out k
          have h36 : k * l.length ≤ 6 * 6 := Nat.mul_le_mul (by omega) h6
          have hcs := Lib.hid (hsz.out k w1 hlt)
          have hcb := Lib.hid (bit_any U k w1 (by omega) (by omega))
          obtain ⟨b, off, rfl, hb, hcc⟩ := hE1.out (by omega)
          have d0 := hcc k hlt
          have hd := hdg.out k
          generalize degW l k = D at *
          generalize wat l k = x at *
          cases e : U.testBit k with
          | true =>
            have hT : Hid (sumD l U (k + 1) = sumD l U k + D) := by unfold Hid; rw [hn2, if_pos e]
            rw [e] at hcb
            clear hn2 e hcc
            generalize sumD l U k = N at *
            have hNI : (N : Int) ≤ 36 := by omega
            have hDI : (D : Int) ≤ 6 := by omega
            go_wp2_with fail
            refine hcb.out.mono ?_
            rintro e w2 ⟨rfl, rfl⟩
            go_wp2_with fail
            refine hcs.out.mono ?_
            rintro e w2 ⟨rfl, rfl⟩
            go_wp2_with fail
            go_round
            case rel => exact ⟨k + 1, by omega, by go_num, by rw [hT.out]; rfl⟩
            case measure => simp [intOf]; omega
          | false =>
            have hT : Hid (sumD l U (k + 1) = sumD l U k) := by unfold Hid; rw [hn2, if_neg (by rw [e]; decide)]; rfl
            rw [e] at hcb
            clear hn2 e hcc
            generalize sumD l U k = N at *
            go_wp2_with fail
            refine hcb.out.mono ?_
            rintro e w2 ⟨rfl, rfl⟩
            go_wp2_with fail
            go_round
            case rel => exact ⟨k + 1, by omega, by go_num, by rw [hT.out]⟩
            case measure => simp [intOf]; omega
        · have hkl : k = l.length := by omega
          subst hkl
          generalize sumD l U l.length = N at *
          cases X
          all_goals
            go_wp2_with fail
            refine hre1.out.mono ?_
            rintro e w2 ⟨rfl, rfl⟩
            go_wp2_with fail
            refine hbt1.out.mono ?_
            rintro e w2 ⟨rfl, rfl⟩
            go_wp2_with fail
            go_ret
            exact ⟨by simp, hB1⟩
    · have e1 : probeBack l i = false := by unfold probeBack; rw [if_neg fun h => hin h.2]
      have e2 : probeSent l i = 0 := by unfold probeSent; rw [if_neg fun h => hin h.2]
      have e3 : probeCode l i = 2 := by unfold probeCode; rw [if_pos hV, if_neg hin]
      rw [e1, e2, e3] at hpr
      clear hE hF hV hcode e1 e2 e3
      by_cases hneg : i < 0
      · clear hin
        go_enter Try.func5, Try.ntmps5
        go_wp2_with fail
        refine hpr.out.mono ?_
        rintro e w1 ⟨rfl, hB1⟩
        have hck1 := Lib.hid (hck.out w1 hB1)
        clear hck hpr
        go_wp2_with fail
        refine hck1.out.mono ?_
        rintro e w2 ⟨rfl, rfl⟩
        go_wp2_with fail
        go_ret
        exact ⟨by simp, hB1⟩
      · have hge : (l.length : Int) ≤ i := by omega
        clear hin
        go_enter Try.func5, Try.ntmps5
        go_wp2_with fail
        refine hpr.out.mono ?_
        rintro e w1 ⟨rfl, hB1⟩
        have hck1 := Lib.hid (hck.out w1 hB1)
        clear hck hpr
        go_wp2_with fail
        refine hck1.out.mono ?_
        rintro e w2 ⟨rfl, rfl⟩
        go_wp2_with fail
        go_ret
        exact ⟨by simp, hB1⟩
  · have hcode : waitCode l ≠ 0 := fun h => hV ((waitCode_iff l).1 h)
    have e1 : probeBack l i = false := by unfold probeBack; rw [if_neg fun h => hV h.1]
    have e2 : probeSent l i = 0 := by unfold probeSent; rw [if_neg fun h => hV h.1]
    have e3 : probeCode l i = waitCode l := by unfold probeCode; rw [if_neg hV]
    rw [e1, e2, e3] at hpr
    generalize waitCode l = x at *
    have hx1 : (x != 0) = true := by simpa using hcode
    have hx2 : (x == 0) = false := by simpa using hcode
    clear hE hF hV e1 e2 e3
    go_enter Try.func5, Try.ntmps5
    go_wp2_with fail
    refine hpr.out.mono ?_
    rintro e w1 ⟨rfl, hB1⟩
    have hck1 := Lib.hid (hck.out w1 hB1)
    clear hck hpr
    go_wp2_with fail
    refine hck1.out.mono ?_
    rintro e w2 ⟨rfl, rfl⟩
    go_wp2_with fail
    go_ret
    exact ⟨by simp, hB1⟩

#print axioms waitProbes_law
end Go.Proofs.Ytilnbebklchikaa
