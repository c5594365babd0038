/-
  The walk of the law beaconrykeep.WaitProbe.
-/
import Derived.Test.YtilnbebklchikaaWpr
import Derived.Test.YtilnbebklchikaaWaitHolt
import Derived.Test.YtilnbebklchikaaIns
namespace Go.Proofs.Ytilnbebklchikaa
open Go.RowKit Go.Maps
set_option linter.unusedVariables false

theorem back_stuck {l : List Nat} (hV : WV l) {i : Nat} (hi : i < l.length) (h : backC l i = true) : (allOut l).testBit i = true := by
  rw [allOut_bit hV, stuck_all hV hi]
  exact ⟨hi, i, .refl _, (backC_iff hV i).1 h⟩
theorem back_some {l : List Nat} (hV : WV l) : anyB (backC l) l.length = true ↔ allOut l ≠ 0 := by
  rw [anyB_iff]
  constructor
  · rintro ⟨j, hj, h⟩ e
    have := back_stuck hV hj h
    rw [e, Nat.zero_testBit] at this
    cases this
  · intro h
    obtain ⟨b, hb⟩ := Nat.exists_testBit_of_ne_zero h
    obtain ⟨hl, hf⟩ := (allOut_bit hV b).1 hb
    obtain ⟨j, _, h2⟩ := (stuck_all hV hl).1 hf
    exact ⟨j, h2.lt hV, (backC_iff hV j).2 h2⟩

def PrbRel (l : List Nat) (w : World) (k : Nat) (v : Value) (wr : World) : Prop := v = .bool (anyB (backC l) k) ∧ Below w.heap.size w wr
set_option maxHeartbeats 3200000 in
theorem waitProbe_law (w : World) (A : Option Addr) (cap : Nat) (l : List Nat) (hE : Wds w w.heap.size A l) (hF : WFits l) (hc : l.length ≤ cap) (hl : l.length ≤ maxLen) (hs : l.length ≤ 35184372088832) (i : Int) (hi : I64 i) :
    Calls Try.prog 7 #[.slice A l.length cap, .int .i64 i] w fun e w' => e = .returned (.bool true) ∧ Below w.heap.size w w' := by
  have hpr : Hid (∀ w1 (j : Int), I64 j → Below w.heap.size w w1 → Calls Try.prog 14 #[.slice A l.length cap, .int .i64 j] w1 (ProRes w1 l j)) := fun w1 j hj hB => probe_any cap w1 A l j hj ((hE.below hB).more hB.size) hF hl
  have hp0 := Lib.hid (hpr.out w i hi (Below.refl _ _))
  unfold ProRes at hp0
  have hall : Hid (∀ w1, Below w.heap.size w w1 → Calls Try.prog 9 #[.slice A l.length cap] w1 (SetRes w1 (allOut l) (waitCode l))) := fun w1 hB => all_any_ cap w1 A l ((hE.below hB).more hB.size) hF hl
  have hEH := Lib.hid hE
  by_cases hV : WV l
  · have hwt : Hid (∀ w1, Below w.heap.size w w1 → Calls Try.prog 18 #[.slice A l.length cap] w1 fun e w' => e = .returned (.bool true) ∧ w1 = w') := fun w1 hB => waited_any cap w1 A l ((hE.below hB).more hB.size) hF hl true ⟨fun _ => hV, fun _ => rfl⟩
    have hcode := (waitCode_iff l).2 hV
    rw [hcode] at hall
    have h6 := hV.six
    have h6I : (l.length : Int) ≤ 6 := by omega
    by_cases hin : 0 ≤ i ∧ i < l.length
    · obtain ⟨j, rfl⟩ : ∃ j : Nat, i = (j : Int) := ⟨i.toNat, by omega⟩
      have hj : j < l.length := by omega
      have e1 : ∀ j : Nat, j < l.length → probeBack l j = backC l j := fun j hj => by unfold probeBack; rw [if_pos ⟨hV, by omega⟩]; rfl
      have e2 : probeSent l j = sentC l j := by unfold probeSent; rw [if_pos ⟨hV, hin⟩]; rfl
      have e3 : ∀ j : Nat, j < l.length → probeCode l j = 0 := fun j hj => by unfold probeCode; rw [if_pos hV, if_pos (by omega)]
      rw [e1 j hj, e2, e3 j hj] at hp0
      have hpk : Hid (∀ w1 (k : Nat), k < l.length → Below w.heap.size w w1 → Calls Try.prog 14 #[.slice A l.length cap, .int .i64 (k : Int)] w1 fun e w' => e = .returned (.tuple #[.bool (backC l k), .int .i64 (probeSent l k : Int), .int .i64 0]) ∧ Below w1.heap.size w1 w') := fun w1 k hk hB => by
        have := hpr.out w1 (k : Int) ⟨by omega, by omega⟩ hB
        unfold ProRes at this
        rw [e1 k hk, e3 k hk] at this
        exact this
      have hCin : Hid (inB l.length [(j : Int)] = true) := by unfold Hid inB; simp [hj]
      have h64 := Nat.pow_le_pow_right (n := 2) (by omega) h6
      have ha := allOut_lt hV
      have f1 : Hid (backC l j = true → (allOut l).testBit j = true) := back_stuck hV hj
      have f2 : Hid (anyB (backC l) l.length = ((allOut l : Int) != 0)) := by
        unfold Hid
        rw [Bool.eq_iff_iff, back_some hV, bne_iff_ne]
        omega
      have f3 : Hid (degW l j ≤ sentC l j) := sentC_ge hj
      have f4 : Hid (sentC l j ≤ l.length * l.length) := sentC_le l j
      have h36 : l.length * l.length ≤ 6 * 6 := Nat.mul_le_mul h6 h6
      have hsz : Hid (∀ w1, Calls Try.prog 17 #[.int .u32 (wat l j : Int)] w1 fun e w' => e = .returned (.int .i64 (degW l j : Int)) ∧ w1 = w') := fun w1 => by
        rw [← degW_32 hV j]
        exact size_any (wat l j) w1 (hV.u32 j)
      have hbt : Hid (∀ w1, Calls Try.prog 16 #[.int .u32 (allOut l : Int), .int .i64 (j : Int)] w1 fun e w' => e = .returned (.bool ((allOut l).testBit j)) ∧ w1 = w') := fun w1 => bit_any _ j w1 (by omega) (by omega)
      have hjI : (j : Int) < (l.length : Int) := by omega
      have hany : Hid (∀ k, anyB (backC l) (k + 1) = (anyB (backC l) k || backC l k)) := fun k => rfl
      generalize allOut l = X at *
      generalize sentC l j = N at *
      generalize degW l j = D at *
      clear hE hF hV hcode e1 e2 e3 hpr
      go_enter Try.func7, Try.ntmps7
      go_wp2_with fail
      refine hp0.out.mono ?_
      rintro e w1 ⟨rfl, hB1⟩
      have hall1 := Lib.hid (hall.out w1 hB1)
      clear hall hp0
      go_wp2_with fail
      refine hall1.out.mono ?_
      rintro e w2 ⟨rfl, hB2⟩
      have hB3 := hB1.trans (hB2.mono hB1.size)
      have hwt1 := Lib.hid (hwt.out w2 hB3)
      clear hall1 hwt hB1 hB2
      go_wp2_with fail
      refine hwt1.out.mono ?_
      rintro e w3 ⟨rfl, rfl⟩
      have hins := Lib.hid (inside_any (some ⟨w2.heap.size, 0, none⟩) 1 [(j : Int)] l.length _ (nums1 w2 (j : Int) 3) (by simp) true hCin)
      have hB4 : Below w.heap.size w (w2.alloc (.cells #[.int .i64 (j : Int)] 3)) := hB3.alloc hB3.size _
      clear hB3 hwt1
      go_wp2_with fail
      refine hins.out.mono ?_
      rintro e w3 ⟨rfl, rfl⟩
      generalize w2.alloc (.cells #[.int .i64 (j : Int)] 3) = w4 at *
      have hstart : Hid (PrbRel l w 0 (.bool false) w4) := ⟨rfl, hB4⟩
      clear hins hB4
      go_wp2_with fail
      go_loopw [11, 10] (fun t s wr => ∃ k : Nat, k ≤ l.length ∧ t = .int .i64 k ∧ PrbRel l w k s wr) (fun t _ _ => l.length - (intOf t).toNat)
      case atStart => exact ⟨0, Nat.zero_le _, rfl, hstart.out⟩
      case round =>
        rename World => w5
        obtain ⟨k, hk, rfl, rfl, hB5⟩ := hrel
        clear hstart
        by_cases hlt : k < l.length
        · have hkI : (k : Int) < (l.length : Int) := by omega
          have hpk5 := Lib.hid (hpk.out w5 k hlt hB5)
          have hn2 := Lib.hid (hany.out k)
          generalize hP : backC l k = P at *
          generalize anyB (backC l) k = Q at *
          cases Q
          · go_wp2_with fail
            refine hpk5.out.mono ?_
            rintro e w6 ⟨rfl, hB6⟩
            have hnext : Hid (PrbRel l w (k + 1) (.bool P) w6) := ⟨by rw [hn2.out]; rfl, hB5.trans (hB6.mono hB5.size)⟩
            clear hn2 hB5 hB6 hpk5 hP
            go_wp2_with fail
            go_roundw
            case rel => exact ⟨k + 1, by omega, by go_num, hnext.out⟩
            case measure => simp [intOf]; omega
          · go_wp2_with fail
            refine hpk5.out.mono ?_
            rintro e w6 ⟨rfl, hB6⟩
            have hnext : Hid (PrbRel l w (k + 1) (.bool true) w6) := ⟨by rw [hn2.out]; rfl, hB5.trans (hB6.mono hB5.size)⟩
            clear hn2 hB5 hB6 hpk5 hP
            go_wp2_with fail
            go_roundw
            case rel => exact ⟨k + 1, by omega, by go_num, hnext.out⟩
            case measure => simp [intOf]; omega
        · have hkl : k = l.length := by omega
          subst hkl
          obtain ⟨b, off, rfl, hb, hcc⟩ := (hEH.out.below hB5) (by omega)
          have d0 := hcc j hj
          have hsz5 := Lib.hid (hsz.out w5)
          have hbt5 := Lib.hid (hbt.out w5)
          have f2' := f2.out
          have hlm : ((l.length : Int) * (l.length : Int)) = ((l.length * l.length : Nat) : Int) := by rw [Int.natCast_mul]
          have hmI : (0 : Int) ≤ (l.length : Int) * (l.length : Int) ∧ (l.length : Int) * (l.length : Int) ≤ 36 := by omega
          have g3 : ((D : Int) ≤ (N : Int)) := by have := f3.out; omega
          have g4 : ((N : Int) ≤ (l.length : Int) * (l.length : Int)) := by have := f4.out; omega
          have hBH := Lib.hid hB5
          generalize anyB (backC l) l.length = Q at *
          generalize backC l j = P at *
          generalize wat l j = x at *
          clear hcc hany hpk hsz hbt hB5 hlm
          cases P with
          | false =>
            clear f1
            go_wp2_with fail
            refine hsz5.out.mono ?_
            rintro e w6 ⟨rfl, rfl⟩
            go_wp2_with fail
            go_ret
            exact ⟨by simp_all, hBH.out⟩
          | true =>
            have g1 := f1.out rfl
            rw [g1] at hbt5
            go_wp2_with fail
            refine hbt5.out.mono ?_
            rintro e w6 ⟨rfl, rfl⟩
            go_wp2_with fail
            refine hsz5.out.mono ?_
            rintro e w6 ⟨rfl, rfl⟩
            go_wp2_with fail
            go_ret
            exact ⟨by simp_all, hBH.out⟩
    · have e3 : probeCode l i = 2 := by unfold probeCode; rw [if_pos hV, if_neg hin]
      rw [e3] at hp0
      have hCin : Hid (inB l.length [i] = false) := by
        unfold Hid inB
        simp only [List.all_cons, List.all_nil, Bool.and_true, decide_eq_false_iff_not]
        exact hin
      generalize probeBack l i = P at *
      generalize probeSent l i = N at *
      generalize allOut l = X at *
      clear hE hF hV hcode e3 hpr hEH
      go_enter Try.func7, Try.ntmps7
      go_wp2_with fail
      refine hp0.out.mono ?_
      rintro e w1 ⟨rfl, hB1⟩
      have hall1 := Lib.hid (hall.out w1 hB1)
      clear hall hp0
      go_wp2_with fail
      refine hall1.out.mono ?_
      rintro e w2 ⟨rfl, hB2⟩
      have hB3 := hB1.trans (hB2.mono hB1.size)
      have hwt1 := Lib.hid (hwt.out w2 hB3)
      clear hall1 hwt hB1 hB2
      go_wp2_with fail
      refine hwt1.out.mono ?_
      rintro e w3 ⟨rfl, rfl⟩
      have hins := Lib.hid (inside_any (some ⟨w2.heap.size, 0, none⟩) 1 [i] l.length _ (nums1 w2 i 3) (by simp) false hCin)
      have hB4 : Below w.heap.size w (w2.alloc (.cells #[.int .i64 i] 3)) := hB3.alloc hB3.size _
      clear hB3 hwt1
      go_wp2_with fail
      refine hins.out.mono ?_
      rintro e w3 ⟨rfl, rfl⟩
      go_wp2_with fail
      go_ret
      exact ⟨by simp, hB4⟩
  · have hwt : Hid (∀ w1, Below w.heap.size w w1 → Calls Try.prog 18 #[.slice A l.length cap] w1 fun e w' => e = .returned (.bool false) ∧ w1 = w') := fun w1 hB => waited_any cap w1 A l ((hE.below hB).more hB.size) hF hl false ⟨(nomatch ·), fun h => absurd h hV⟩
    have hcode : waitCode l ≠ 0 := fun h => hV ((waitCode_iff l).1 h)
    have e3 : probeCode l i = waitCode l := by unfold probeCode; rw [if_neg hV]
    rw [e3] at hp0
    generalize waitCode l = x at *
    generalize probeBack l i = P at *
    generalize probeSent l i = N at *
    generalize allOut l = X at *
    have hx1 : (x != 0) = true := by simpa using hcode
    clear hE hF hV hEH e3 hpr
    go_enter Try.func7, Try.ntmps7
    go_wp2_with fail
    refine hp0.out.mono ?_
    rintro e w1 ⟨rfl, hB1⟩
    have hall1 := Lib.hid (hall.out w1 hB1)
    clear hall hp0
    go_wp2_with fail
    refine hall1.out.mono ?_
    rintro e w2 ⟨rfl, hB2⟩
    have hB3 := hB1.trans (hB2.mono hB1.size)
    have hwt1 := Lib.hid (hwt.out w2 hB3)
    clear hall1 hwt hB1 hB2
    go_wp2_with fail
    refine hwt1.out.mono ?_
    rintro e w3 ⟨rfl, rfl⟩
    go_wp2_with fail
    go_ret
    exact ⟨by simp, hB3⟩

#print axioms waitProbe_law
end Go.Proofs.Ytilnbebklchikaa
