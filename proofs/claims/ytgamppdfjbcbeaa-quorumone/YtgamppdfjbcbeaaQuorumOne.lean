/-
  The walk of the law beaconrykeep.QuorumOne.
-/
import Derived.Test.YtgamppdfjbcbeaaQuorumMeets
namespace Go.Proofs.Ytgamppdfjbcbeaa
open Go.RowKit Go.Maps
set_option linter.unusedVariables false

theorem nil_code3 {N s : Nat} (h1 : 1 ≤ N) (h6 : N ≤ 6) : setsCode3 (N : Int) [] s = if 2 ^ N ≤ s then 4 else 0 := by
  have h := OkS.code (N := N) (l := []) ⟨h1, h6, fun x hx => by simp at hx⟩ (by simp)
  unfold setsCode3
  rw [if_pos h, Int.toNat_natCast]
theorem nilCheck_any (N s : Nat) (w : World) (h1 : 1 ≤ N) (h6 : N ≤ 6) (hs : s < 4294967296) :
    Calls Try.prog 13 #[.int .i64 (N : Int), .slice none 0 0, .int .u32 (s : Int)] w fun e w' => e = .returned (.int .i64 (if 2 ^ N ≤ s then 4 else 0)) ∧ w = w' := by
  have := setsCheck_any (N : Int) 0 none [] s w hs (fun h => absurd h (by simp)) (fun i => by rw [wat_out [] (Nat.zero_le _)]; decide) (by simp)
  rw [nil_code3 h1 h6] at this
  exact this
set_option maxHeartbeats 3200000 in
theorem quorumOne_law (w : World) (n : Int) (_hn : I64 n) (A : Option Addr) (cap : Nat) (l : List Nat) (hE : Wds w w.heap.size A l) (hF : WFits l) (hc : l.length ≤ cap) (hl : l.length ≤ maxLen) (hs : l.length ≤ 35184372088832) (s : Nat) (hs32 : s < 4294967296) :
    Calls Try.prog 8 #[.int .i64 n, .slice A l.length cap, .int .u32 (s : Int)] w fun e w' => e = .returned (.bool true) ∧ Below w.heap.size w w' := by
  obtain ⟨F, hFull⟩ := bool_of (cotCode n l = 0 ∧ FullP n.toNat l)
  have h1 := Lib.hid (full_any cap n A l w hE hF hl hc F hFull)
  have h2 : Hid (∀ w1, Below w.heap.size w w1 → ∀ C : Bool, (C = true ↔ cotCode n l = 0) → Calls Try.prog 24 #[.int .i64 n, .slice A l.length cap] w1 fun e w' => e = .returned (.bool C) ∧ Below w1.heap.size w1 w') := fun w1 hB C hC => met_any cap n A l w1 ((hE.below hB).more hB.size) hF hl C hC
  unfold TwoRes at h1
  by_cases h0 : cotCode n l = 0
  · obtain ⟨hcs, hcot⟩ := cotCode_zero h0
    obtain ⟨hn, hlen, hok⟩ := setsCode_zero hcs
    have h2b : Hid (∀ w1, Below w.heap.size w w1 → Calls Try.prog 24 #[.int .i64 n, .slice A l.length cap] w1 fun e w' => e = .returned (.bool true) ∧ Below w1.heap.size w1 w') := fun w1 hB => h2.out w1 hB true ⟨fun _ => h0, fun _ => rfl⟩
    obtain ⟨N, hN⟩ : ∃ N : Nat, N = n.toNat := ⟨_, rfl⟩
    rw [← hN] at hn hok hFull
    subst hn
    clear hN
    have hone := hok.one
    have h6 := hok.six
    have h64 := Nat.pow_le_pow_right (n := 2) (by omega) h6
    have hN32 : (N : Int) < 32 := by omega
    have h3 : Hid (∀ w1, Calls Try.prog 13 #[.int .i64 (N : Int), .slice none 0 0, .int .u32 (s : Int)] w1 fun e w' => e = .returned (.int .i64 (if 2 ^ N ≤ s then 4 else 0)) ∧ w1 = w') := fun w1 => nilCheck_any N s w1 hone h6 hs32
    have hFw : Hid (F = true → FullP N l) := fun h => (hFull.1 h).2
    rw [h0] at h1
    by_cases hlt : s < 2 ^ N
    · rw [if_neg (by omega)] at h3
      have k3 := setsCode3_ok hcs (s := s) (by rw [Int.toNat_natCast]; exact hlt)
      have k4 := setsCode3_ok hcs (s := comp N s) (by rw [Int.toNat_natCast]; exact comp_lt N s)
      have h4 : Hid (∀ w1, Below w.heap.size w w1 → Calls Try.prog 15 #[.int .i64 (N : Int), .slice A l.length cap, .int .u32 (s : Int)] w1 fun e w' => e = .returned (.tuple #[.bool (winB l s), .int .i64 0]) ∧ Below w1.heap.size w1 w') := fun w1 hB => by
        have := wins_any cap (N : Int) A l s w1 hs32 ((hE.below hB).more hB.size) hF hl (winB l s) (by rw [k3]; exact ⟨fun h => ⟨rfl, h⟩, fun h => h.2⟩)
        rw [k3] at this
        exact this
      have h5 : Hid (∀ w1, Below w.heap.size w w1 → Calls Try.prog 15 #[.int .i64 (N : Int), .slice A l.length cap, .int .u32 (comp N s : Int)] w1 fun e w' => e = .returned (.tuple #[.bool (winB l (comp N s)), .int .i64 0]) ∧ Below w1.heap.size w1 w') := fun w1 hB => by
        have hcl := comp_lt N s
        have := wins_any cap (N : Int) A l (comp N s) w1 (by omega) ((hE.below hB).more hB.size) hF hl (winB l (comp N s)) (by rw [k4]; exact ⟨fun h => ⟨rfl, h⟩, fun h => h.2⟩)
        rw [k4] at this
        exact this
      have h7 : Hid (∀ w1, Below w.heap.size w w1 → Calls Try.prog 12 #[.int .i64 (N : Int), .slice A l.length cap] w1 fun e w' => e = .returned (.tuple #[.bool true, .int .i64 0]) ∧ Below w1.heap.size w1 w') := fun w1 hB => by
        have := meet_any cap (N : Int) A l w1 ((hE.below hB).more hB.size) hF hl hc true ⟨fun _ => ⟨hcs, hcot⟩, fun _ => rfl⟩
        rw [hcs] at this
        exact this
      have hp := Lib.hid (pow_mod N (by omega))
      have hc1 : (2 : Int) ^ N % 4294967296 - 1 - (s : Int) = ((comp N s : Nat) : Int) := by
        rw [hp.out]
        unfold comp
        generalize 2 ^ N = y at *
        omega
      have hab : Hid (winB l s = true → winB l (comp N s) = true → False) := fun a b => one_wins hok hcot hlt a b
      have hfw : Hid (F = true → winB l s = false → winB l (comp N s) = false → False) := fun a b c => by
        have := hFw.out a s hlt
        have k := (undB_iff N l s).2 ⟨b, c⟩
        rw [this] at k
        cases k
      have hcl := comp_lt N s
      have hsI : (s : Int) < (2 : Int) ^ N % 4294967296 := by rw [hp.out]; omega
      have hsI2 : (s : Int) + 1 ≤ (2 : Int) ^ N % 4294967296 := by omega
      generalize comp N s = c at *
      generalize winB l s = P at *
      generalize winB l c = Q at *
      clear hE hF h2 hFull h0 hcs hcot hok hFw k3 k4 hlt h64 hcl
      go_enter Try.func8, Try.ntmps8
      go_wp2_with fail
      refine h1.out.mono ?_
      rintro e w1 ⟨rfl, hB1⟩
      have h2' := Lib.hid (h2b.out w1 hB1)
      clear h1 h2b
      go_wp2_with fail
      refine h2'.out.mono ?_
      rintro e w2 ⟨rfl, hB2⟩
      have hB3 := hB1.trans (hB2.mono hB1.size)
      have h4' := Lib.hid (h4.out w2 hB3)
      clear h2' hB1 hB2 h4
      go_wp2_with fail
      refine (h3.out _).mono ?_
      rintro e w3 ⟨rfl, rfl⟩
      go_wp2_with fail
      refine h4'.out.mono ?_
      rintro e w4 ⟨rfl, hB4⟩
      have hB5 := hB3.trans (hB4.mono hB3.size)
      have h5' := Lib.hid (h5.out w4 hB5)
      clear h4' hB3 hB4 h5 h3
      go_wp2_with fail
      refine h5'.out.mono ?_
      rintro e w5 ⟨rfl, hB6⟩
      have hB7 := hB5.trans (hB6.mono hB5.size)
      have h7' := Lib.hid (h7.out w5 hB7)
      clear h5' hB5 hB6 h7
      go_wp2_with fail
      refine h7'.out.mono ?_
      rintro e w6 ⟨rfl, hB8⟩
      have hB9 := Lib.hid (hB7.trans (hB8.mono hB7.size))
      clear h7' hB7 hB8 hsI hsI2 hc1
      cases P with
      | true =>
        cases Q with
        | true => exact (hab.out rfl rfl).elim
        | false =>
          cases F <;> (go_wp2_with fail; go_ret; exact ⟨rfl, hB9.out⟩)
      | false =>
        cases Q with
        | true => cases F <;> (go_wp2_with fail; go_ret; exact ⟨rfl, hB9.out⟩)
        | false =>
          cases F with
          | true => exact (hfw.out rfl rfl rfl).elim
          | false =>
            go_wp2_with fail
            go_ret
            exact ⟨rfl, hB9.out⟩
    · rw [if_pos (by omega)] at h3
      clear hE hF h2 hFull h0 hcs hcot hok hFw hlt h64
      go_enter Try.func8, Try.ntmps8
      go_wp2_with fail
      refine h1.out.mono ?_
      rintro e w1 ⟨rfl, hB1⟩
      have h2' := Lib.hid (h2b.out w1 hB1)
      clear h1 h2b
      go_wp2_with fail
      refine h2'.out.mono ?_
      rintro e w2 ⟨rfl, hB2⟩
      go_wp2_with fail
      refine (h3.out _).mono ?_
      rintro e w3 ⟨rfl, rfl⟩
      go_wp2_with fail
      go_ret
      exact ⟨rfl, hB1.trans (hB2.mono hB1.size)⟩
  · have h2b : Hid (∀ w1, Below w.heap.size w w1 → Calls Try.prog 24 #[.int .i64 n, .slice A l.length cap] w1 fun e w' => e = .returned (.bool false) ∧ Below w1.heap.size w1 w') := fun w1 hB => h2.out w1 hB false ⟨(nomatch ·), fun h => absurd h h0⟩
    generalize cotCode n l = x at *
    have hx0 : (x != 0) = true := by simpa using h0
    clear hE hFull h2
    go_enter Try.func8, Try.ntmps8
    go_wp2_with fail
    refine h1.out.mono ?_
    rintro e w1 ⟨rfl, hB1⟩
    have h2' := Lib.hid (h2b.out w1 hB1)
    clear h1 h2b
    go_wp2_with fail
    refine h2'.out.mono ?_
    rintro e w2 ⟨rfl, hB2⟩
    go_wp2_with fail
    go_ret
    exact ⟨by simp_all, hB1.trans (hB2.mono hB1.size)⟩
#print axioms quorumOne_law
end Go.Proofs.Ytgamppdfjbcbeaa
