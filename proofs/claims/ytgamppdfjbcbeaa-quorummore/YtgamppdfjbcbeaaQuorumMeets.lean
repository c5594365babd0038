/-
  The walks of the laws beaconrylaw.QuorumMeets, QuorumWins, QuorumFulls.
-/
import Derived.Test.YtgamppdfjbcbeaaUun
import Derived.Test.YtgamppdfjbcbeaaUrg
namespace Go.Proofs.Ytgamppdfjbcbeaa
open Go.RowKit Go.Maps
set_option linter.unusedVariables false

theorem bool_of (p : Prop) : ∃ C : Bool, C = true ↔ p := by
  by_cases h : p
  · exact ⟨true, fun _ => h, fun _ => rfl⟩
  · exact ⟨false, (nomatch ·), fun h' => absurd h' h⟩
set_option maxHeartbeats 1600000 in
theorem quorumMeets_law (w : World) (n : Int) (_hn : I64 n) (A : Option Addr) (cap : Nat) (l : List Nat) (hE : Wds w w.heap.size A l) (hF : WFits l) (hc : l.length ≤ cap) (hl : l.length ≤ maxLen) (hs : l.length ≤ 35184372088832) :
    Calls Try.prog 3 #[.int .i64 n, .slice A l.length cap] w fun e w' => e = .returned (.bool true) ∧ Below w.heap.size w w' := by
  obtain ⟨C, hC⟩ := bool_of (setsCode n l = 0 ∧ Cot l)
  have h1 := Lib.hid (meet_any cap n A l w hE hF hl hc C hC)
  have h2 : Hid (∀ w1, Below w.heap.size w w1 → Calls Try.prog 13 #[.int .i64 n, .slice A l.length cap, .int .u32 0] w1 fun e w' => e = .returned (.int .i64 (setsCode n l)) ∧ w1 = w') := fun w1 hB => setsCheck0_any n cap A l w1 ((hE.below hB).more hB.size) hF hl
  unfold TwoRes at h1
  by_cases h0 : setsCode n l = 0
  · have hlen := (setsCode_zero h0).2.1
    have h3 : Hid (∀ w1, Below w.heap.size w w1 → Calls Try.prog 14 #[.slice A l.length cap] w1 fun e w' => e = .returned (.bool C) ∧ Below w1.heap.size w1 w') := fun w1 hB => refMeet_any cap A l w1 ((hE.below hB).more hB.size) hF (by omega) C (by rw [hC]; exact ⟨fun h => h.2, fun h => ⟨h0, h⟩⟩)
    rw [h0] at h1 h2
    clear hE hC h0 hlen
    go_enter Try.func3, Try.ntmps3
    go_wp2_with fail
    refine h1.out.mono ?_
    rintro e w1 ⟨rfl, hB1⟩
    have h2' := Lib.hid (h2.out w1 hB1)
    have h3' := Lib.hid (h3.out w1 hB1)
    clear h1 h2 h3
    go_wp2_with fail
    refine h2'.out.mono ?_
    rintro e w2 ⟨rfl, rfl⟩
    go_wp2_with fail
    refine h3'.out.mono ?_
    rintro e w3 ⟨rfl, hB3⟩
    go_wp2_with fail
    go_ret
    exact ⟨by cases C <;> rfl, hB1.trans (hB3.mono hB1.size)⟩
  · have hC0 : Hid (C = false) := by
      unfold Hid
      rw [← Bool.not_eq_true, hC]
      exact fun h => h0 h.1
    obtain rfl := hC0.out
    generalize setsCode n l = x at *
    have hx0 : (x != 0) = true := by simpa using h0
    clear hE hC
    go_enter Try.func3, Try.ntmps3
    go_wp2_with fail
    refine h1.out.mono ?_
    rintro e w1 ⟨rfl, hB1⟩
    have h2' := Lib.hid (h2.out w1 hB1)
    clear h1 h2
    go_wp2_with fail
    refine h2'.out.mono ?_
    rintro e w2 ⟨rfl, rfl⟩
    go_wp2_with fail
    go_ret
    exact ⟨by simp, hB1⟩

set_option maxHeartbeats 1600000 in
theorem quorumWins_law (w : World) (n : Int) (_hn : I64 n) (A : Option Addr) (cap : Nat) (l : List Nat) (hE : Wds w w.heap.size A l) (hF : WFits l) (hc : l.length ≤ cap) (hl : l.length ≤ maxLen) (hs : l.length ≤ 35184372088832) (s : Nat) (hs32 : s < 4294967296) :
    Calls Try.prog 4 #[.int .i64 n, .slice A l.length cap, .int .u32 (s : Int)] w fun e w' => e = .returned (.bool true) ∧ Below w.heap.size w w' := by
  obtain ⟨C, hC⟩ := bool_of (setsCode3 n l s = 0 ∧ winB l s = true)
  have h1 := Lib.hid (wins_any cap n A l s w hs32 hE hF hl C hC)
  have h2 : Hid (∀ w1, Below w.heap.size w w1 → Calls Try.prog 13 #[.int .i64 n, .slice A l.length cap, .int .u32 (s : Int)] w1 fun e w' => e = .returned (.int .i64 (setsCode3 n l s)) ∧ w1 = w') := fun w1 hB => setsCheck_any n cap A l s w1 hs32 ((hE.below hB).more hB.size) hF hl
  unfold TwoRes at h1
  by_cases h0 : setsCode3 n l s = 0
  · have hlen := (setsCode_zero (setsCode3_zero h0).1).2.1
    have hCw : Hid (winB l s = C) := by
      unfold Hid
      rw [Bool.eq_iff_iff, hC]
      exact ⟨fun h => ⟨h0, h⟩, fun h => h.2⟩
    have h3 : Hid (∀ w1, Below w.heap.size w w1 → Calls Try.prog 16 #[.slice A l.length cap, .int .u32 (s : Int)] w1 fun e w' => e = .returned (.bool C) ∧ w1 = w') := fun w1 hB => by
      have := refWins_any s cap A l w1 hs32 ((hE.below hB).more hB.size) hF (by omega)
      rw [hCw.out] at this
      exact this
    rw [h0] at h1 h2
    clear hE hC h0 hlen hCw
    go_enter Try.func4, Try.ntmps4
    go_wp2_with fail
    refine h1.out.mono ?_
    rintro e w1 ⟨rfl, hB1⟩
    have h2' := Lib.hid (h2.out w1 hB1)
    have h3' := Lib.hid (h3.out w1 hB1)
    clear h1 h2 h3
    go_wp2_with fail
    refine h2'.out.mono ?_
    rintro e w2 ⟨rfl, rfl⟩
    go_wp2_with fail
    refine h3'.out.mono ?_
    rintro e w3 ⟨rfl, rfl⟩
    go_wp2_with fail
    go_ret
    exact ⟨by cases C <;> rfl, hB1⟩
  · have hC0 : Hid (C = false) := by
      unfold Hid
      rw [← Bool.not_eq_true, hC]
      exact fun h => h0 h.1
    obtain rfl := hC0.out
    generalize setsCode3 n l s = x at *
    have hx0 : (x != 0) = true := by simpa using h0
    clear hE hC
    go_enter Try.func4, Try.ntmps4
    go_wp2_with fail
    refine h1.out.mono ?_
    rintro e w1 ⟨rfl, hB1⟩
    have h2' := Lib.hid (h2.out w1 hB1)
    clear h1 h2
    go_wp2_with fail
    refine h2'.out.mono ?_
    rintro e w2 ⟨rfl, rfl⟩
    go_wp2_with fail
    go_ret
    exact ⟨by simp, hB1⟩

set_option maxHeartbeats 1600000 in
theorem quorumFulls_law (w : World) (n : Int) (_hn : I64 n) (A : Option Addr) (cap : Nat) (l : List Nat) (hE : Wds w w.heap.size A l) (hF : WFits l) (hc : l.length ≤ cap) (hl : l.length ≤ maxLen) (hs : l.length ≤ 35184372088832) :
    Calls Try.prog 5 #[.int .i64 n, .slice A l.length cap] w fun e w' => e = .returned (.bool true) ∧ Below w.heap.size w w' := by
  obtain ⟨C, hC⟩ := bool_of (cotCode n l = 0 ∧ FullP n.toNat l)
  have h1 := Lib.hid (full_any cap n A l w hE hF hl hc C hC)
  have h2 : Hid (∀ w1, Below w.heap.size w w1 → Calls Try.prog 18 #[.int .i64 n, .slice A l.length cap] w1 fun e w' => e = .returned (.int .i64 (cotCode n l)) ∧ Below w1.heap.size w1 w') := fun w1 hB => meetCode_any cap n A l w1 ((hE.below hB).more hB.size) hF hl
  unfold TwoRes at h1
  by_cases h0 : cotCode n l = 0
  · obtain ⟨hn, hlen, hok⟩ := setsCode_zero (cotCode_zero h0).1
    have h3 : Hid (∀ w1, Below w.heap.size w w1 → Calls Try.prog 19 #[.int .i64 n, .slice A l.length cap] w1 fun e w' => e = .returned (.bool C) ∧ w1 = w') := fun w1 hB => by
      have := refFull_any n.toNat cap A l w1 ((hE.below hB).more hB.size) hF hok (by omega) C (by rw [hC]; exact ⟨fun h => h.2, fun h => ⟨h0, h⟩⟩)
      rw [← hn] at this
      exact this
    rw [h0] at h1 h2
    clear hE hC h0 hlen hok hn
    go_enter Try.func5, Try.ntmps5
    go_wp2_with fail
    refine h1.out.mono ?_
    rintro e w1 ⟨rfl, hB1⟩
    have h2' := Lib.hid (h2.out w1 hB1)
    clear h1 h2
    go_wp2_with fail
    refine h2'.out.mono ?_
    rintro e w2 ⟨rfl, hB2⟩
    have hB3 := hB1.trans (hB2.mono hB1.size)
    have h3' := Lib.hid (h3.out w2 hB3)
    clear h3 h2' hB2 hB1
    go_wp2_with fail
    refine h3'.out.mono ?_
    rintro e w3 ⟨rfl, rfl⟩
    go_wp2_with fail
    go_ret
    exact ⟨by cases C <;> rfl, hB3⟩
  · have hC0 : Hid (C = false) := by
      unfold Hid
      rw [← Bool.not_eq_true, hC]
      exact fun h => h0 h.1
    obtain rfl := hC0.out
    generalize cotCode n l = x at *
    have hx0 : (x != 0) = true := by simpa using h0
    clear hE hC
    go_enter Try.func5, Try.ntmps5
    go_wp2_with fail
    refine h1.out.mono ?_
    rintro e w1 ⟨rfl, hB1⟩
    have h2' := Lib.hid (h2.out w1 hB1)
    clear h1 h2
    go_wp2_with fail
    refine h2'.out.mono ?_
    rintro e w2 ⟨rfl, hB2⟩
    go_wp2_with fail
    go_ret
    exact ⟨by simp, hB1.trans (hB2.mono hB1.size)⟩
#print axioms quorumMeets_law
#print axioms quorumWins_law
#print axioms quorumFulls_law
end Go.Proofs.Ytgamppdfjbcbeaa
