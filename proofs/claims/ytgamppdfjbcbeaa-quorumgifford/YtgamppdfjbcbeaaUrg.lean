/-
  The contracts of beaconryref.Full, of beaconrylaw.meetCode and beaconrykeep.met; SetsCheck without a set.
-/
import Derived.Test.YtgamppdfjbcbeaaUrf
namespace Go.Proofs.Ytgamppdfjbcbeaa
open Go.RowKit Go.Maps
set_option linter.unusedVariables false

theorem setsCheck0_any (n : Int) (cap : Nat) (A : Option Addr) (l : List Nat) (w : World) (hq : Wds w w.heap.size A l) (hF : WFits l) (hl : l.length ≤ maxLen) :
    Calls Try.prog 13 #[.int .i64 n, .slice A l.length cap, .int .u32 0] w fun e w' => e = .returned (.int .i64 (setsCode n l)) ∧ w = w' := by
  have := setsCheck_any n cap A l 0 w (by decide) hq hF hl
  rw [setsCode3_nil] at this
  exact this

def RfRel (w : World) (wr : World) : Prop := w = wr
set_option maxHeartbeats 1600000 in
theorem refFull_any (N cap : Nat) (A : Option Addr) (l : List Nat) (w : World) (hq : Wds w w.heap.size A l) (hF : WFits l) (hok : OkS N l) (hl : l.length ≤ 1000) (C : Bool) (hC : C = true ↔ FullP N l) :
    Calls Try.prog 19 #[.int .i64 (N : Int), .slice A l.length cap] w fun e w' => e = .returned (.bool C) ∧ w = w' := by
  have h6 := hok.six
  have h64 := Nat.pow_le_pow_right (n := 2) (by omega) hok.six
  have hpos : 0 < 2 ^ N := Nat.pow_pos (by omega)
  have hN32 : (N : Int) < 32 := by omega
  have hw : Hid (∀ s : Nat, s < 4294967296 → Calls Try.prog 16 #[.slice A l.length cap, .int .u32 (s : Int)] w fun e w' => e = .returned (.bool (winB l s)) ∧ w = w') := fun s hs => refWins_any s cap A l w hs hq hF hl
  have hyes : Hid ((∀ s, s < 2 ^ N → undB N l s = false) → C = true) := fun h => hC.2 h
  have hno : Hid (∀ s, s < 2 ^ N → undB N l s = true → C = false) := fun s hs h => by
    rw [← Bool.not_eq_true, hC]
    intro hf
    rw [hf s hs] at h
    cases h
  have hp := Lib.hid (pow_mod N (by omega))
  clear hq hok hC
  go_enter Try.func19, Try.ntmps19
  go_wp2_with fail
  go_loopw [5] (fun t wr => ∃ k : Nat, k ≤ 2 ^ N ∧ t = .int .u32 (k : Int) ∧ RfRel w wr ∧ Hid (∀ s, s < k → undB N l s = false)) (fun t _ => 2 ^ N - (intOf t).toNat)
  case atStart => exact ⟨0, by omega, rfl, rfl, fun a h => by omega⟩
  case round =>
    obtain ⟨k, hk, rfl, hB, hr⟩ := hrel
    unfold RfRel at hB
    subst hB
    by_cases hlt : k < 2 ^ N
    · have hcl := comp_lt N k
      have hb1 : (k : Int) < (2 : Int) ^ N % 4294967296 := by rw [hp.out]; omega
      have c1 := Lib.hid (hw.out k (by omega))
      have c2 := Lib.hid (hw.out (comp N k) (by omega))
      have hcv : Hid (comp N k = 2 ^ N - 1 - k) := rfl
      have hu : Hid (undB N l k = (!winB l k && !winB l (comp N k))) := rfl
      have hn3 : Hid (undB N l k = false → ∀ s, s < k + 1 → undB N l s = false) := fun e s h2 => by
        by_cases es : s = k
        · subst es; exact e
        · exact hr.out s (by omega)
      have hn1 := Lib.hid (hno.out k hlt)
      have hk32 : (k : Int) + 1 < 4294967296 := by omega
      have hmea : k + 1 ≤ 2 ^ N := hlt
      have hc1 : (2 : Int) ^ N % 4294967296 - 1 - (k : Int) = ((comp N k : Nat) : Int) := by
        rw [hcv.out, hp.out]
        generalize 2 ^ N = y at *
        omega
      generalize comp N k = c at *
      generalize winB l k = P at *
      generalize winB l c = Q at *
      generalize undB N l k = U at *
      clear hcl hw hno hr hyes
      cases P with
      | true =>
        have hn4 := Lib.hid (hn3.out (by rw [hu.out]; rfl))
        clear c2 hn3 hn1 hu hc1
        go_wp2_with fail
        refine c1.out.mono ?_
        rintro e w1 ⟨rfl, rfl⟩
        go_wp2_with fail
        go_roundw
        case rel => exact ⟨k + 1, hmea, by go_num, rfl, hn4⟩
        case measure => simp [intOf]; omega
      | false =>
        cases Q with
        | true =>
          have hn4 := Lib.hid (hn3.out (by rw [hu.out]; rfl))
          clear hn3 hn1 hu
          go_wp2_with fail
          refine c1.out.mono ?_
          rintro e w1 ⟨rfl, rfl⟩
          go_wp2_with fail
          refine c2.out.mono ?_
          rintro e w1 ⟨rfl, rfl⟩
          go_wp2_with fail
          go_roundw
          case rel => exact ⟨k + 1, hmea, by go_num, rfl, hn4⟩
          case measure => simp [intOf]; omega
        | false =>
          have hC0 := Lib.hid (hn1.out (by rw [hu.out]; rfl))
          obtain rfl := hC0.out
          clear hn3 hn1 hu
          go_wp2_with fail
          refine c1.out.mono ?_
          rintro e w1 ⟨rfl, rfl⟩
          go_wp2_with fail
          refine c2.out.mono ?_
          rintro e w1 ⟨rfl, rfl⟩
          go_wp2_with fail
          go_ret
          exact ⟨rfl, rfl⟩
    · have hkl : k = 2 ^ N := by omega
      have hb1 : ¬ (k : Int) < (2 : Int) ^ N % 4294967296 := by rw [hp.out]; omega
      have hC0 := Lib.hid (hyes.out (by rw [← hkl]; exact hr.out))
      obtain rfl := hC0.out
      clear hr hw hno hkl hlt hk
      go_wp2_with fail
      go_ret
      exact ⟨rfl, rfl⟩

set_option maxHeartbeats 800000 in
theorem meetCode_any (cap : Nat) (n : Int) (A : Option Addr) (l : List Nat) (w : World) (hq : Wds w w.heap.size A l) (hF : WFits l) (hl : l.length ≤ maxLen) :
    Calls Try.prog 18 #[.int .i64 n, .slice A l.length cap] w fun e w' => e = .returned (.int .i64 (cotCode n l)) ∧ Below w.heap.size w w' := by
  have hc := Lib.hid (setsCheck0_any n cap A l w hq hF hl)
  by_cases h0 : setsCode n l = 0
  · have hlen := (setsCode_zero h0).2.1
    have hct : Hid (∀ C : Bool, (C = true ↔ Cot l) → Calls Try.prog 14 #[.slice A l.length cap] w fun e w' => e = .returned (.bool C) ∧ Below w.heap.size w w') := fun C hC => refMeet_any cap A l w hq hF (by omega) C hC
    rw [h0] at hc
    by_cases h1 : Cot l
    · have hx := Lib.hid (cotCode_ok h0 h1)
      have ht := Lib.hid (hct.out true ⟨fun _ => h1, fun _ => rfl⟩)
      generalize cotCode n l = x at *
      obtain rfl := hx.out
      clear hq hct h1 h0 hlen
      go_enter Try.func18, Try.ntmps18
      go_wp2_with fail
      refine hc.out.mono ?_
      rintro e w1 ⟨rfl, rfl⟩
      go_wp2_with fail
      refine ht.out.mono ?_
      rintro e w2 ⟨rfl, hB2⟩
      go_wp2_with fail
      go_ret
      exact ⟨rfl, hB2⟩
    · have hx := Lib.hid (cotCode_form h0 h1)
      have ht := Lib.hid (hct.out false ⟨(nomatch ·), fun h => absurd h h1⟩)
      generalize cotCode n l = x at *
      obtain rfl := hx.out
      clear hq hct h1 h0 hlen
      go_enter Try.func18, Try.ntmps18
      go_wp2_with fail
      refine hc.out.mono ?_
      rintro e w1 ⟨rfl, rfl⟩
      go_wp2_with fail
      refine ht.out.mono ?_
      rintro e w2 ⟨rfl, hB2⟩
      go_wp2_with fail
      go_ret
      exact ⟨rfl, hB2⟩
  · rw [cotCode_sets h0]
    generalize setsCode n l = x at *
    have hx0 : (x == 0) = false := by simpa using h0
    clear hq
    go_enter Try.func18, Try.ntmps18
    go_wp2_with fail
    refine hc.out.mono ?_
    rintro e w1 ⟨rfl, rfl⟩
    go_wp2_with fail
    go_ret
    exact ⟨rfl, Below.refl _ _⟩

set_option maxHeartbeats 800000 in
theorem met_any (cap : Nat) (n : Int) (A : Option Addr) (l : List Nat) (w : World) (hq : Wds w w.heap.size A l) (hF : WFits l) (hl : l.length ≤ maxLen) (C : Bool) (hC : C = true ↔ cotCode n l = 0) :
    Calls Try.prog 24 #[.int .i64 n, .slice A l.length cap] w fun e w' => e = .returned (.bool C) ∧ Below w.heap.size w w' := by
  have hc := Lib.hid (setsCheck0_any n cap A l w hq hF hl)
  by_cases h0 : setsCode n l = 0
  · have hlen := (setsCode_zero h0).2.1
    have ht := Lib.hid (refMeet_any cap A l w hq hF (by omega) C (by rw [hC]; exact ⟨fun h => (cotCode_zero h).2, fun h => cotCode_ok h0 h⟩))
    rw [h0] at hc
    clear hq hC h0 hlen
    go_enter Try.func24, Try.ntmps24
    go_wp2_with fail
    refine hc.out.mono ?_
    rintro e w1 ⟨rfl, rfl⟩
    go_wp2_with fail
    refine ht.out.mono ?_
    rintro e w2 ⟨rfl, hB2⟩
    go_wp2_with fail
    go_ret
    exact ⟨rfl, hB2⟩
  · have hC0 : Hid (C = false) := by
      unfold Hid
      rw [← Bool.not_eq_true, hC]
      intro h
      exact h0 (cotCode_zero h).1
    obtain rfl := hC0.out
    generalize setsCode n l = x at *
    have hx0 : (x == 0) = false := by simpa using h0
    clear hq hC
    go_enter Try.func24, Try.ntmps24
    go_wp2_with fail
    refine hc.out.mono ?_
    rintro e w1 ⟨rfl, rfl⟩
    go_wp2_with fail
    go_ret
    exact ⟨rfl, Below.refl _ _⟩
#print axioms refFull_any
#print axioms meetCode_any
#print axioms met_any
end Go.Proofs.Ytgamppdfjbcbeaa
