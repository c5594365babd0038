/-
  The walk of the law beaconrykeep.QuorumMore.
-/
import Derived.Test.YtgamppdfjbcbeaaQuorumMeets
namespace Go.Proofs.Ytgamppdfjbcbeaa
open Go.RowKit Go.Maps
set_option linter.unusedVariables false

theorem nilWins_any (N s : Nat) (w : World) (h1 : 1 ≤ N) (h6 : N ≤ 6) (hs : s < 2 ^ N) :
    Calls Try.prog 15 #[.int .i64 (N : Int), .slice none 0 0, .int .u32 (s : Int)] w fun e w' => e = .returned (.tuple #[.bool false, .int .i64 0]) ∧ Below w.heap.size w w' := by
  have h64 := Nat.pow_le_pow_right (n := 2) (by omega) h6
  have hk : setsCode3 (N : Int) [] s = 0 := setsCode3_ok (OkS.code (N := N) (l := []) ⟨h1, h6, fun x hx => by simp at hx⟩ (by simp)) (by rw [Int.toNat_natCast]; exact hs)
  have := wins_any 0 (N : Int) none [] s w (by omega) (fun h => absurd h (by simp)) (fun i => by rw [wat_out [] (Nat.zero_le _)]; decide) (by simp) false ⟨(nomatch ·), fun h => by rw [winB_nil] at h; exact absurd h.2 (by decide)⟩
  rw [hk] at this
  exact this
theorem allWins_any (N b cap : Nat) (w : World) (h1 : 1 ≤ N) (h6 : N ≤ 6) (hR : Row w b 27 [.int .u32 ((2 ^ N - 1 : Nat) : Int)]) :
    Calls Try.prog 15 #[.int .i64 (N : Int), .slice (some ⟨b, 0, none⟩) 1 cap, .int .u32 ((2 ^ N - 1 : Nat) : Int)] w fun e w' => e = .returned (.tuple #[.bool true, .int .i64 0]) ∧ Below w.heap.size w w' := by
  have h64 := Nat.pow_le_pow_right (n := 2) (by omega) h6
  have h2 : 1 < 2 ^ N := by
    have := Nat.pow_le_pow_right (n := 2) (by omega) h1
    omega
  have hok : OkS N [2 ^ N - 1] := ⟨h1, h6, fun x hx => by
    rw [List.mem_singleton] at hx
    omega⟩
  have hk : setsCode3 (N : Int) [2 ^ N - 1] (2 ^ N - 1) = 0 := setsCode3_ok (hok.code (by simp)) (by rw [Int.toNat_natCast]; omega)
  have c0 := hR.cell (i := 0) (by simp)
  simp only [List.getElem_cons_zero] at c0
  have hw : Wds w w.heap.size (some ⟨b, 0, none⟩) [2 ^ N - 1] := fun _ => ⟨b, 0, rfl, hR.lt, fun i hi => by
    obtain rfl : i = 0 := by simpa using hi
    exact c0⟩
  have hF : WFits [2 ^ N - 1] := fun i => by
    rcases Nat.lt_or_ge i 1 with hi | hi
    · obtain rfl : i = 0 := by omega
      show 2 ^ N - 1 < _
      omega
    · rw [wat_out [2 ^ N - 1] (by simpa using hi)]; decide
  have := wins_any cap (N : Int) (some ⟨b, 0, none⟩) [2 ^ N - 1] (2 ^ N - 1) w (by omega) hw hF (by simp [maxLen]) true ⟨fun _ => ⟨hk, (winB_iff _ _).2 ⟨2 ^ N - 1, by simp, subW.refl _⟩⟩, fun _ => rfl⟩
  rw [hk] at this
  exact this

def QmRel (w : World) (wr : World) : Prop := Below w.heap.size w wr
set_option maxHeartbeats 6400000 in
theorem quorumMore_law (w : World) (n : Int) (_hn : I64 n) (A : Option Addr) (cap : Nat) (l : List Nat) (hE : Wds w w.heap.size A l) (hF : WFits l) (hc : l.length ≤ cap) (hl : l.length ≤ maxLen) (hs : l.length ≤ 35184372088832) (s : Nat) (hs32 : s < 4294967296) (t : Nat) (ht32 : t < 4294967296) :
    Calls Try.prog 10 #[.int .i64 n, .slice A l.length cap, .int .u32 (s : Int), .int .u32 (t : Int)] w fun e w' => e = .returned (.bool true) ∧ Below w.heap.size w w' := by
  obtain ⟨P, hP⟩ := bool_of (setsCode3 n l s = 0 ∧ winB l s = true)
  obtain ⟨Q, hQ⟩ := bool_of (setsCode3 n l (s ||| t) = 0 ∧ winB l (s ||| t) = true)
  have hst32 : s ||| t < 4294967296 := Nat.or_lt_two_pow (n := 32) hs32 ht32
  have hor := u32_or_nat s t hs32 ht32
  have hle : s ≤ s ||| t := Nat.left_le_or
  have hsub : subW s (s ||| t) := subW_or_left s t
  have h1 := Lib.hid (wins_any cap n A l s w hs32 hE hF hl P hP)
  have h2 : Hid (∀ w1, Below w.heap.size w w1 → Calls Try.prog 15 #[.int .i64 n, .slice A l.length cap, .int .u32 ((s ||| t : Nat) : Int)] w1 fun e w' => e = .returned (.tuple #[.bool Q, .int .i64 (setsCode3 n l (s ||| t))]) ∧ Below w1.heap.size w1 w') := fun w1 hB => wins_any cap n A l (s ||| t) w1 hst32 ((hE.below hB).more hB.size) hF hl Q hQ
  have h3 : Hid (∀ w1, Below w.heap.size w w1 → Calls Try.prog 13 #[.int .i64 n, .slice A l.length cap, .int .u32 ((s ||| t : Nat) : Int)] w1 fun e w' => e = .returned (.int .i64 (setsCode3 n l (s ||| t))) ∧ w1 = w') := fun w1 hB => setsCheck_any n cap A l (s ||| t) w1 hst32 ((hE.below hB).more hB.size) hF hl
  unfold TwoRes at h1
  generalize s ||| t = q at *
  by_cases h0 : setsCode3 n l q = 0
  · obtain ⟨hcs, hq⟩ := setsCode3_zero h0
    obtain ⟨hn, hlen, hok⟩ := setsCode_zero hcs
    have hs0 : setsCode3 n l s = 0 := setsCode3_ok hcs (by omega)
    have hPQ : Hid (P = true → Q = true) := fun h => hQ.2 ⟨h0, winB_mono hsub (hP.1 h).2⟩
    rw [h0] at h2 h3
    rw [hs0] at h1
    obtain ⟨N, hN⟩ : ∃ N : Nat, N = n.toNat := ⟨_, rfl⟩
    rw [← hN] at hn hok hq
    subst hn
    clear hN
    have hone := hok.one
    have h6 := hok.six
    have h64 := Nat.pow_le_pow_right (n := 2) (by omega) h6
    have hN32 : (N : Int) < 32 := by omega
    have hEH := Lib.hid hE
    have h4 : Hid (∀ w1, Below w.heap.size w w1 → ∀ i, i < l.length → Calls Try.prog 15 #[.int .i64 (N : Int), .slice A l.length cap, .int .u32 (wat l i : Int)] w1 fun e w' => e = .returned (.tuple #[.bool true, .int .i64 0]) ∧ Below w1.heap.size w1 w') := fun w1 hB i hi => by
      have hk : setsCode3 (N : Int) l (wat l i) = 0 := setsCode3_ok hcs (by rw [Int.toNat_natCast]; exact (hok.at_ hi).2)
      have := wins_any cap (N : Int) A l (wat l i) w1 (hF i) ((hE.below hB).more hB.size) hF hl true ⟨fun _ => ⟨hk, (winB_iff _ _).2 ⟨wat l i, wat_mem hi, subW.refl _⟩⟩, fun _ => rfl⟩
      rw [hk] at this
      exact this
    have h5 : Hid (∀ w1, Calls Try.prog 15 #[.int .i64 (N : Int), .slice none 0 0, .int .u32 (s : Int)] w1 fun e w' => e = .returned (.tuple #[.bool false, .int .i64 0]) ∧ Below w1.heap.size w1 w') := fun w1 => nilWins_any N s w1 hone h6 (by omega)
    have h7 : Hid (∀ w1 b cap, Row w1 b 27 [.int .u32 ((2 ^ N - 1 : Nat) : Int)] → Calls Try.prog 15 #[.int .i64 (N : Int), .slice (some ⟨b, 0, none⟩) 1 cap, .int .u32 ((2 ^ N - 1 : Nat) : Int)] w1 fun e w' => e = .returned (.tuple #[.bool true, .int .i64 0]) ∧ Below w1.heap.size w1 w') := fun w1 b cap hR => allWins_any N b cap w1 hone h6 hR
    have hp := Lib.hid (pow_mod N (by omega))
    have hpos : 1 ≤ 2 ^ N := Nat.pow_pos (by omega)
    have hc1 : (2 : Int) ^ N % 4294967296 - 1 = ((2 ^ N - 1 : Nat) : Int) := by
      rw [hp.out]
      generalize 2 ^ N = y at *
      omega
    have hpb : 1 ≤ (2 : Int) ^ N % 4294967296 := by rw [hp.out]; omega
    clear hE h0 hcs hok hP hQ hs0 hsub hle hq
    generalize 2 ^ N - 1 = y at *
    clear h64 hpos
    go_enter Try.func10, Try.ntmps10
    go_wp2_with fail
    refine h1.out.mono ?_
    rintro e w1 ⟨rfl, hB1⟩
    have h2' := Lib.hid (h2.out w1 hB1)
    clear h1 h2
    go_wp2_with fail
    refine h2'.out.mono ?_
    rintro e w2 ⟨rfl, hB2⟩
    have hB3 := hB1.trans (hB2.mono hB1.size)
    have h3' := Lib.hid (h3.out w2 hB3)
    clear h2' hB1 hB2 h3
    go_wp2_with fail
    refine h3'.out.mono ?_
    rintro e w3 ⟨rfl, rfl⟩
    have hB3H := Lib.hid hB3
    clear h3' hB3
    go_wp2_with fail
    go_loopw [52] (fun t wr => ∃ k : Nat, k ≤ l.length ∧ t = .int .i64 k ∧ QmRel w wr) (fun t _ => l.length - (intOf t).toNat)
    case atStart => exact ⟨0, Nat.zero_le _, rfl, hB3H.out⟩
    case round =>
      obtain ⟨k, hk, rfl, hB⟩ := hrel
      unfold QmRel at hB
      by_cases hlt : k < l.length
      · have h4' := Lib.hid (h4.out wr hB k hlt)
        obtain ⟨b, off, rfl, hb, hcc⟩ := hEH.out.below hB (by omega)
        have c0 := hcc k hlt
        have hkI : (k : Int) < (l.length : Int) := by omega
        have hBH := Lib.hid hB
        clear hcc hB h4 h5 h7
        generalize wat l k = x at *
        go_wp2_with fail
        refine h4'.out.mono ?_
        rintro e w6 ⟨rfl, hB6⟩
        have hB7 := Lib.hid (hBH.out.trans (hB6.mono hBH.out.size))
        clear hB6
        go_wp2_with fail
        go_roundw
        case rel => exact ⟨k + 1, by omega, by go_num, hB7.out⟩
        case measure => simp [intOf]; omega
      · have hkl : k = l.length := by omega
        subst hkl
        clear h4
        have hBH := Lib.hid hB
        clear hB
        go_wp2_with fail
        refine (h5.out _).mono ?_
        rintro e w5 ⟨rfl, hB5⟩
        have hB6 := hBH.out.trans (hB5.mono hBH.out.size)
        have hRow : Row (w5.alloc (.cells #[.int .u32 (y : Int)] 27)) w5.heap.size 27 [.int .u32 (y : Int)] := Row.made w5 _ [_]
        have hB7 := hB6.alloc hB6.size (.cells #[.int .u32 (y : Int)] 27)
        have h7' := Lib.hid (h7.out _ _ 1 hRow)
        have hB7H := Lib.hid hB7
        clear h5 h7 hB5 hB6 hRow hB7 hBH
        go_wp2_with fail
        refine h7'.out.mono ?_
        rintro e w8 ⟨rfl, hB8⟩
        have hB9 := Lib.hid (hB7H.out.trans (hB8.mono hB7H.out.size))
        clear hB8 h7' hB7H
        cases P with
        | true =>
          have hq1 := Lib.hid (hPQ.out rfl)
          obtain rfl := hq1.out
          go_wp2_with fail
          go_ret
          exact ⟨rfl, hB9.out⟩
        | false =>
          go_wp2_with fail
          go_ret
          exact ⟨rfl, hB9.out⟩
  · generalize setsCode3 n l q = x at *
    generalize setsCode3 n l s = z at *
    have hx0 : (x != 0) = true := by simpa using h0
    clear hE hP hQ hle hsub
    by_cases hz : z = 0
    · have hz0 : (z != 0) = false := by simpa using hz
      clear hz
      go_enter Try.func10, Try.ntmps10
      go_wp2_with fail
      refine h1.out.mono ?_
      rintro e w1 ⟨rfl, hB1⟩
      have h2' := Lib.hid (h2.out w1 hB1)
      clear h1 h2
      go_wp2_with fail
      refine h2'.out.mono ?_
      rintro e w2 ⟨rfl, hB2⟩
      have hB3 := hB1.trans (hB2.mono hB1.size)
      have h3' := Lib.hid (h3.out w2 hB3)
      clear h2' hB1 hB2 h3
      go_wp2_with fail
      refine h3'.out.mono ?_
      rintro e w3 ⟨rfl, rfl⟩
      go_wp2_with fail
      go_ret
      exact ⟨by simp_all, hB3⟩
    · have hz0 : (z != 0) = true := by simpa using hz
      clear hz
      go_enter Try.func10, Try.ntmps10
      go_wp2_with fail
      refine h1.out.mono ?_
      rintro e w1 ⟨rfl, hB1⟩
      have h2' := Lib.hid (h2.out w1 hB1)
      clear h1 h2
      go_wp2_with fail
      refine h2'.out.mono ?_
      rintro e w2 ⟨rfl, hB2⟩
      have hB3 := hB1.trans (hB2.mono hB1.size)
      have h3' := Lib.hid (h3.out w2 hB3)
      clear h2' hB1 hB2 h3
      go_wp2_with fail
      refine h3'.out.mono ?_
      rintro e w3 ⟨rfl, rfl⟩
      go_wp2_with fail
      go_ret
      exact ⟨by simp_all, hB3⟩
#print axioms quorumMore_law
end Go.Proofs.Ytgamppdfjbcbeaa
