/-
  The walk of the law beaconrylaw.ForkTurns.
-/
import Derived.Test.YtieicimoolegoaaFrn
import Derived.Test.YtieicimoolegoaaFtd
import Derived.Test.YtieicimoolegoaaFlo
import Derived.Test.YtieicimoolegoaaFfc
namespace Go.Proofs.Ytieicimoolegoaa
open Go.RowKit Go.Maps
set_option linter.unusedVariables false

set_option maxHeartbeats 3200000 in
theorem forkTurns_law (w : World) (n : Int) (_hn : I64 n) (A : Option Addr) (cap : Nat) (l : List Lk) (hE : Lks w w.heap.size A l) (hF : LFits l) (hc : l.length ≤ cap) (hlm : l.length ≤ maxLen) (hl : l.length ≤ 17592186044416) (i : Int) (_hi : I64 i) :
    Calls Try.prog 5 #[.int .i64 n, .slice A l.length cap, .int .i64 i] w fun e w' => e = .returned (.bool true) ∧ Below w.heap.size w w' := by
  have h1 := Lib.hid (turn_any_ A cap l n i w hE hc hl)
  have h2 : Hid (∀ w1, Below w.heap.size w w1 → Calls Try.prog 12 #[.int .i64 n, .slice A l.length cap] w1 fun e w' => e = .returned (.int .i64 (fcode n l)) ∧ Below w1.heap.size w1 w') := fun w1 hB => forkCode_any A cap l n w1 ((hE.below hB).more hB.size) hc hl
  by_cases hf : fcode n l = 0
  · obtain ⟨hn, hV⟩ := fcode_FV hf
    have h15 := fcode_len hf
    rw [hf] at h2
    cases hin : inP n i with
    | false =>
      have hT := turnCode_out (i := i) hf hin
      unfold TurnRes at h1
      rw [hT] at h1
      by_cases hi0 : i < 0
      · have v1 : decide (i < 0) = true := decide_eq_true hi0
        clear hE hF hf hn hV hT hin
        go_enter Try.func5, Try.ntmps5
        go_wp2_with fail
        refine h1.out.mono ?_
        rintro e w1 ⟨v, rfl, hB1, hv⟩
        obtain rfl : v = .slice none 0 0 := by
          rcases hv with h | h
          · exact absurd h.1 (by omega)
          · exact h.2
        have h2' := Lib.hid (h2.out w1 hB1)
        clear h1 h2 hv
        go_wp2_with fail
        refine h2'.out.mono ?_
        rintro e w2 ⟨rfl, hB2⟩
        go_wp2_with fail
        go_ret
        exact ⟨by simp_all, hB1.trans (hB2.mono hB1.size)⟩
      · have v1 : decide (i < 0) = false := decide_eq_false hi0
        have hni : n ≤ i := by
          have := (inP_iff n i)
          rw [hin] at this
          have h : ¬ (0 ≤ i ∧ i < n) := fun h => by have := this.2 h; cases this
          omega
        have v2 : decide (i ≥ n) = true := decide_eq_true hni
        have v2' : decide (n ≤ i) = true := decide_eq_true hni
        clear hE hF hf hn hV hT hin
        go_enter Try.func5, Try.ntmps5
        go_wp2_with fail
        refine h1.out.mono ?_
        rintro e w1 ⟨v, rfl, hB1, hv⟩
        obtain rfl : v = .slice none 0 0 := by
          rcases hv with h | h
          · exact absurd h.1 (by omega)
          · exact h.2
        have h2' := Lib.hid (h2.out w1 hB1)
        clear h1 h2 hv
        go_wp2_with fail
        refine h2'.out.mono ?_
        rintro e w2 ⟨rfl, hB2⟩
        go_wp2_with fail
        go_ret
        exact ⟨by simp_all, hB1.trans (hB2.mono hB1.size)⟩
    | true =>
      obtain ⟨j, rfl⟩ : ∃ j : Nat, i = (j : Int) := ⟨i.toNat, by have := (inP_iff n i).1 hin; omega⟩
      have hjn : j < n.toNat := by have := (inP_iff n j).1 hin; omega
      have h6 := hV.six
      have h64 := Nat.pow_le_pow_right (n := 2) (by omega) hV.six
      have hni : ¬ n ≤ (j : Int) := by have := (inP_iff n j).1 hin; omega
      have v1 : decide ((j : Int) < 0) = false := decide_eq_false (by omega)
      have v2 : decide ((j : Int) ≥ n) = false := decide_eq_false hni
      have v2' : decide (n ≤ (j : Int)) = false := decide_eq_false hni
      have hLl := lowN_lt n.toNat l
      have hlow : Hid (∀ w1, Below w.heap.size w w1 → Calls Try.prog 15 #[.int .i64 n, .slice A l.length cap] w1 fun e w' => e = .returned (.int .u32 (lowN n.toNat l : Int)) ∧ Below w1.heap.size w1 w') := fun w1 hB => by
        have := rlow_any A cap l n.toNat w1 ((hE.below hB).more hB.size) hV.six hV.ok (by omega)
        rw [← hn] at this
        exact this
      have hbit := Lib.hid (fun w => bit_any (lowN n.toNat l) j w (by omega) (by omega))
      cases hb : (lowN n.toNat l).testBit j with
      | false =>
        have hT := turnCode_none (i := (j : Int)) hf hin (by simpa using hb)
        unfold TurnRes at h1
        rw [hT] at h1
        rw [hb] at hbit
        generalize lowN n.toNat l = L at *
        clear hE hF hf hn hV hT hin hb
        go_enter Try.func5, Try.ntmps5
        go_wp2_with fail
        refine h1.out.mono ?_
        rintro e w1 ⟨v, rfl, hB1, hv⟩
        obtain rfl : v = .slice none 0 0 := by
          rcases hv with h | h
          · exact absurd h.1 (by omega)
          · exact h.2
        have h2' := Lib.hid (h2.out w1 hB1)
        clear h1 h2 hv
        go_wp2_with fail
        refine h2'.out.mono ?_
        rintro e w2 ⟨rfl, hB2⟩
        have hB3 := hB1.trans (hB2.mono hB1.size)
        have h3' := Lib.hid (hlow.out w2 hB3)
        clear hlow hB2 hB1
        go_wp2_with fail
        refine h3'.out.mono ?_
        rintro e w3 ⟨rfl, hB4⟩
        have hB5 := hB3.trans (hB4.mono hB3.size)
        clear hB4 hB3
        go_wp2_with fail
        refine (hbit.out _).mono ?_
        rintro e w4 ⟨rfl, rfl⟩
        go_wp2_with fail
        go_ret
        exact ⟨by simp_all, hB5⟩
      | true =>
        have hT := turnCode_ok (i := (j : Int)) hf hin (by simpa using hb)
        have hpj := two_pow_lt j hjn
        have hsnk : Snk l (2 ^ j) := pow_Snk ((lowN_bit hV.six hV.ok j).1 hb).2
        have htd : Hid (∀ w1, Below w.heap.size w w1 → Calls Try.prog 19 #[.slice A l.length cap, .int .u32 ((2 ^ j : Nat) : Int)] w1 (TurnedRes w1 (2 ^ j) l)) := fun w1 hB => turned_any A cap l n.toNat (2 ^ j) w1 ((hE.below hB).more hB.size) hV.six hV.ok (by omega) (by omega)
        have hteq := Lib.hid (turnedL_eq hsnk)
        have hpm := Lib.hid (pow_mod j (by omega))
        have hj32 : (j : Int) < 32 := by omega
        have hmin : Hid (min j 32 = j) := Nat.min_eq_left (by omega)
        unfold TurnRes at h1
        rw [hT] at h1
        rw [hb] at hbit
        generalize lowN n.toNat l = L at *
        clear hE hF hf hn hV hT hin hb hsnk
        go_enter Try.func5, Try.ntmps5
        go_wp2_with fail
        refine h1.out.mono ?_
        rintro e w1 ⟨v, rfl, hB1, hv⟩
        have hM : MadeL w1 w.heap.size v (revL (2 ^ j) l) := by
          rcases hv with h | h
          · simpa using h.2
          · exact absurd rfl h.1
        have h2' := Lib.hid (h2.out w1 hB1)
        have hMH := Lib.hid hM
        obtain ⟨A9, cap9, hv9, _, _, _⟩ := hM.lks
        rw [revL_len] at hv9
        subst hv9
        clear h1 h2 hv hM
        go_wp2_with fail
        refine h2'.out.mono ?_
        rintro e w2 ⟨rfl, hB2⟩
        have hB3 := hB1.trans (hB2.mono hB1.size)
        have hM2 := Lib.hid (hMH.out.below hB2)
        have h3' := Lib.hid (hlow.out w2 hB3)
        clear hlow hB2 hB1 hMH
        go_wp2_with fail
        refine h3'.out.mono ?_
        rintro e w3 ⟨rfl, hB4⟩
        have hB5 := hB3.trans (hB4.mono hB3.size)
        have hM3 := Lib.hid (hM2.out.below hB4)
        have h4' := Lib.hid (htd.out w3 hB5)
        clear hB4 hB3 hM2 htd
        go_wp2_with fail
        refine (hbit.out _).mono ?_
        rintro e w4 ⟨rfl, rfl⟩
        go_wp2_with fail
        rw [hpm.out]
        refine h4'.out.mono ?_
        rintro e w5 ⟨v5, rfl, hM5, hB6⟩
        rw [hteq.out] at hM5
        have hB7 := hB5.trans (hB6.mono hB5.size)
        have hMa := hM3.out.below hB6
        obtain ⟨Aa, capa, hva, _, _, hLa⟩ := hMa.lks
        obtain ⟨Ab, capb, hvb, _, _, hLb⟩ := hM5.lks
        injection hva with q1 q2 q3
        subst q1 q3
        clear q2
        have htw := Lib.hid (twos_same A9 Ab cap9 capb (revL (2 ^ j) l) w5 hLa hLb (by rw [revL_len]; omega))
        rw [revL_len] at hvb htw
        subst hvb
        clear hM5 hMa hLa hLb hM3 hB6 hB5
        go_wp2_with fail
        refine htw.out.mono ?_
        rintro e w6 ⟨rfl, hB8⟩
        go_wp2_with fail
        go_ret
        exact ⟨by simp_all, hB7.trans (hB8.mono hB7.size)⟩
  · have hT := turnCode_bad (i := i) hf
    unfold TurnRes at h1
    rw [hT] at h1
    generalize fcode n l = x at *
    have hx : (x != 0) = true := by simpa using hf
    have hx2 : (x == 0) = false := by simpa using hf
    have hfH := Lib.hid hf
    clear hE hF hT hf
    go_enter Try.func5, Try.ntmps5
    go_wp2_with fail
    refine h1.out.mono ?_
    rintro e w1 ⟨v, rfl, hB1, hv⟩
    obtain rfl : v = .slice none 0 0 := by
      rcases hv with h | h
      · exact absurd h.1 hfH.out
      · exact h.2
    have h2' := Lib.hid (h2.out w1 hB1)
    clear h1 h2 hv
    go_wp2_with fail
    refine h2'.out.mono ?_
    rintro e w2 ⟨rfl, hB2⟩
    go_wp2_with fail
    go_ret
    exact ⟨by simp_all, hB1.trans (hB2.mono hB1.size)⟩
#print axioms forkTurns_law
end Go.Proofs.Ytieicimoolegoaa
