/-
  The walk of the law beaconrylaw.QuorumBetters.
-/
import Derived.Test.YtgamppdfjbcbeaaQuorumBetter
import Derived.Test.YtgamppdfjbcbeaaUws
namespace Go.Proofs.Ytgamppdfjbcbeaa
open Go.RowKit Go.Maps
set_option linter.unusedVariables false

/-- Does one of the first k sets win now that did not? -/
def newB (l r : List Nat) (k : Nat) : Bool := (List.range k).any fun s => winB r s && !winB l s
theorem newB_next (l r : List Nat) (k : Nat) : newB l r (k + 1) = (newB l r k || (winB r k && !winB l k)) := by
  unfold newB
  rw [List.range_succ, List.any_append]
  simp
theorem newB_of {l r : List Nat} {s k : Nat} (h : s < k) (h1 : winB r s = true) (h2 : winB l s = false) : newB l r k = true := by
  unfold newB
  rw [List.any_eq_true]
  exact ⟨s, List.mem_range.2 h, by rw [h1, h2]; rfl⟩
theorem betL_win {l : List Nat} {u s : Nat} (h : winB l s = true) : winB (betL l u) s = true := by
  by_cases e : u = 0
  · subst e; rw [betL_zero]; exact h
  · rw [betL_add l e]; exact add_win h

set_option maxHeartbeats 1600000 in
theorem betters_no (w : World) (n : Int) (A : Option Addr) (cap : Nat) (l : List Nat) (hE : Wds w w.heap.size A l) (hF : WFits l) (hc : l.length ≤ cap) (hl : l.length ≤ maxLen) (h0 : cotCode n l ≠ 0) :
    Calls Try.prog 6 #[.int .i64 n, .slice A l.length cap] w fun e w' => e = .returned (.bool true) ∧ Below w.heap.size w w' := by
  have hb := Lib.hid (better_no cap n A l w hE hF hl hc h0)
  have hm : Hid (∀ (w1 : World), Below w.heap.size w w1 → Calls Try.prog 18 #[.int .i64 n, .slice A l.length cap] w1 fun e w' => e = .returned (.int .i64 (cotCode n l)) ∧ Below w1.heap.size w1 w') := fun w1 hB => meetCode_any cap n A l w1 ((hE.below hB).more hB.size) hF hl
  generalize cotCode n l = x at *
  have hx0 : (x != 0) = true := by simpa using h0
  clear hE
  go_enter Try.func6, Try.ntmps6
  go_wp2_with fail
  refine hb.out.mono ?_
  rintro e w1 ⟨rfl, hB1⟩
  have hm' := Lib.hid (hm.out w1 hB1)
  have hBH := Lib.hid hB1
  clear hb hm hB1
  go_wp2_with fail
  refine hm'.out.mono ?_
  rintro e w2 ⟨rfl, hB2⟩
  go_wp2_with fail
  go_ret
  exact ⟨by simp, hBH.out.trans (hB2.mono hBH.out.size)⟩

def BsRel (w : World) (wr : World) : Prop := w = wr
set_option maxHeartbeats 6400000 in
theorem quorumBetters_law (w : World) (n : Int) (_hn : I64 n) (A : Option Addr) (cap : Nat) (l : List Nat) (hE : Wds w w.heap.size A l) (hF : WFits l) (hc : l.length ≤ cap) (hl : l.length ≤ maxLen) (hs : l.length ≤ 35184372088832) :
    Calls Try.prog 6 #[.int .i64 n, .slice A l.length cap] w fun e w' => e = .returned (.bool true) ∧ Below w.heap.size w w' := by
  by_cases h0 : cotCode n l = 0
  rotate_left
  · exact betters_no w n A cap l hE hF hc hl h0
  obtain ⟨hn, hlen, hok⟩ := setsCode_zero (cotCode_zero h0).1
  have hcot := (cotCode_zero h0).2
  have hb := Lib.hid (better_ok cap n A l w hE hF hl hc h0)
  have hm : Hid (∀ (w1 : World), Below w.heap.size w w1 → Calls Try.prog 18 #[.int .i64 n, .slice A l.length cap] w1 fun e w' => e = .returned (.int .i64 0) ∧ Below w1.heap.size w1 w') := fun w1 hB => by
    have := meetCode_any cap n A l w1 ((hE.below hB).more hB.size) hF hl
    rw [h0] at this
    exact this
  generalize n.toNat = N at *
  subst hn
  have hEH := Lib.hid hE
  have hokH := Lib.hid hok
  have hfu : Hid (∀ (w1 : World) (C : Bool), Below w.heap.size w w1 → (C = true ↔ FullP N l) → Calls Try.prog 19 #[.int .i64 (N : Int), .slice A l.length cap] w1 fun e w' => e = .returned (.bool C) ∧ w1 = w') := fun w1 C hB hC => refFull_any N cap A l w1 ((hEH.out.below hB).more hB.size) hF hok (by omega) C hC
  have hsc : Hid (∀ (w1 : World) (r : List Nat) (A2 : Option Addr) (cap2 : Nat), Wds w1 w1.heap.size A2 r → OkS N r → r.length ≤ 20 → Calls Try.prog 13 #[.int .i64 (N : Int), .slice A2 r.length cap2, .int .u32 0] w1 fun e w' => e = .returned (.int .i64 0) ∧ w1 = w') := fun w1 r A2 cap2 hW ho hr => by
    have := setsCheck0_any (N : Int) cap2 A2 r w1 hW ho.fits (by unfold maxLen; omega)
    rw [ho.code hr] at this
    exact this
  have hmt : Hid (∀ (w1 : World) (r : List Nat) (A2 : Option Addr) (cap2 : Nat), Wds w1 w1.heap.size A2 r → OkS N r → r.length ≤ 20 → Cot r → Calls Try.prog 14 #[.slice A2 r.length cap2] w1 fun e w' => e = .returned (.bool true) ∧ Below w1.heap.size w1 w') := fun w1 r A2 cap2 hW ho hr hC => refMeet_any cap2 A2 r w1 hW ho.fits (by omega) true ⟨fun _ => hC, fun _ => rfl⟩
  have hws : Hid (∀ (w1 : World) (A2 : Option Addr) (cap2 : Nat), Below w.heap.size w w1 → Wds w1 w1.heap.size A2 l → Calls Try.prog 21 #[.slice A2 l.length cap2, .slice A l.length cap] w1 fun e w' => e = .returned (.bool true) ∧ Below w1.heap.size w1 w') := fun w1 A2 cap2 hB hW => words_same A2 A cap2 cap l w1 hW ((hEH.out.below hB).more hB.size) (by omega)
  have hwl : Hid (∀ (w1 : World) (s : Nat), Below w.heap.size w w1 → s < 4294967296 → Calls Try.prog 16 #[.slice A l.length cap, .int .u32 (s : Int)] w1 fun e w' => e = .returned (.bool (winB l s)) ∧ w1 = w') := fun w1 s hB hs => refWins_any s cap A l w1 hs ((hEH.out.below hB).more hB.size) hF (by omega)
  have hcotH := Lib.hid hcot
  have hlenH := Lib.hid hlen
  have h6 := hok.six
  have h64 := Nat.pow_le_pow_right (n := 2) (by omega) hok.six
  have hpos : 0 < 2 ^ N := Nat.pow_pos (by omega)
  have hN32 : (N : Int) < 32 := by omega
  have hp := Lib.hid (pow_mod N (by omega))
  unfold BetRes at hb
  clear hE hok hcot h0 hc hs hl
  go_enter Try.func6, Try.ntmps6
  go_wp2_with fail
  refine hb.out.mono ?_
  rintro e w1 ⟨u, v, x, rfl, hu, hv, hB1⟩
  have huH := Lib.hid hu
  have hm' := Lib.hid (hm.out w1 hB1)
  have hBH := Lib.hid hB1
  clear hb hm
  rcases hv with ⟨rfl, hO, hr20⟩ | ⟨rfl, rfl, hr20⟩
  · have hor := Lib.hid (betL_ok hokH.out hu)
    have hcr := Lib.hid (betL_cot hokH.out hcotH.out hu)
    have hwin : Hid (∀ s, winB l s = true → winB (betL l u) s = true) := fun s => betL_win
    have hu0 : Hid (u = 0 → betL l u = l) := fun e => by rw [e]; exact betL_zero l
    have hu1 : Hid (u ≠ 0 → newB l (betL l u) (2 ^ N) = true) := fun e => by
      rcases huH.out with ⟨h1, _⟩ | ⟨h1, h2, h3⟩
      · exact absurd h1 e
      · exact newB_of h2 (by rw [betL_add l e]; exact add_new l u) ((undB_iff _ _ _).1 h3).1
    obtain ⟨A2, cap2, rfl, hc1, hc2, hW⟩ := hO.words
    generalize betL l u = r at *
    have hWH := Lib.hid hW
    have hrH := Lib.hid hr20
    clear hO hW hu hB1 hr20 hc1 hc2
    go_wp2_with fail
    refine hm'.out.mono ?_
    rintro e w2 ⟨rfl, hB2⟩
    have hB2H := Lib.hid (hBH.out.trans (hB2.mono hBH.out.size))
    have hW2 := Lib.hid ((hWH.out.below hB2).more hB2.size)
    have hsc' := Lib.hid (hsc.out w2 r A2 cap2 hW2.out hor.out hrH.out)
    have hmt' := Lib.hid (hmt.out w2 r A2 cap2 hW2.out hor.out hrH.out hcr.out)
    clear hm' hWH hBH hB2 hsc hmt
    go_wp2_with fail
    refine hsc'.out.mono ?_
    rintro e w3 ⟨rfl, rfl⟩
    go_wp2_with fail
    refine hmt'.out.mono ?_
    rintro e w4 ⟨rfl, hB4⟩
    have hB4H := Lib.hid (hB2H.out.trans (hB4.mono hB2H.out.size))
    have hW4 := Lib.hid ((hW2.out.below hB4).more hB4.size)
    clear hsc' hmt' hW2 hB4 hB2H
    by_cases hu00 : u = 0
    · have hrl := Lib.hid (hu0.out hu00)
      have hf := Lib.hid (hfu.out w4 true hB4H.out ⟨fun _ => huH.out.full.1 hu00, fun _ => rfl⟩)
      obtain rfl := hrl.out
      have hw := Lib.hid (hws.out w4 A2 cap2 hB4H.out hW4.out)
      clear hfu hws hwl hu1 hwin hrl hu0
      go_wp2_with fail
      refine hf.out.mono ?_
      rintro e w5 ⟨rfl, rfl⟩
      go_wp2_with fail
      refine hw.out.mono ?_
      rintro e w6 ⟨rfl, hB6⟩
      go_wp2_with fail
      go_ret
      exact ⟨rfl, hB4H.out.trans (hB6.mono hB4H.out.size)⟩
    · have hf := Lib.hid (hfu.out w4 false hB4H.out ⟨(nomatch ·), fun h => absurd (huH.out.full.2 h) hu00⟩)
      have hfin := Lib.hid (hu1.out hu00)
      have hl4 : Hid (∀ s : Nat, s < 4294967296 → Calls Try.prog 16 #[.slice A l.length cap, .int .u32 (s : Int)] w4 fun e w' => e = .returned (.bool (winB l s)) ∧ w4 = w') := fun s hs => hwl.out w4 s hB4H.out hs
      have hr4 : Hid (∀ s : Nat, s < 4294967296 → Calls Try.prog 16 #[.slice A2 r.length cap2, .int .u32 (s : Int)] w4 fun e w' => e = .returned (.bool (winB r s)) ∧ w4 = w') := fun s hs => refWins_any s cap2 A2 r w4 hs hW4.out hor.out.fits (by have := hrH.out; omega)
      have hnx : Hid (∀ s : Nat, newB l r (s + 1) = (newB l r s || (winB r s && !winB l s))) := newB_next l r
      clear hfu hws hwl hu1 hu0 huH hokH hor hcr hW4 hrH
      go_wp2_with fail
      refine hf.out.mono ?_
      rintro e w5 ⟨rfl, rfl⟩
      clear hf
      go_wp2_with fail
      go_loopw [9, 8] (fun t m wr => ∃ k : Nat, k ≤ 2 ^ N ∧ t = .int .u32 (k : Int) ∧ m = .bool (newB l r k) ∧ BsRel w4 wr) (fun t _ _ => 2 ^ N - (intOf t).toNat)
      case atStart => exact ⟨0, by omega, rfl, rfl, rfl⟩
      case round =>
        obtain ⟨k, hk, rfl, rfl, hB⟩ := hrel
        unfold BsRel at hB
        subst hB
        by_cases hlt : k < 2 ^ N
        · have hb1 : (k : Int) < (2 : Int) ^ N % 4294967296 := by rw [hp.out]; omega
          have c1 := Lib.hid (hl4.out k (by omega))
          have c2 := Lib.hid (hr4.out k (by omega))
          have hwk := Lib.hid (hwin.out k)
          have hnk := Lib.hid (hnx.out k)
          have hk32 : (k : Int) + 1 < 4294967296 := by omega
          have hmea : k + 1 ≤ 2 ^ N := hlt
          generalize winB l k = P at *
          generalize winB r k = Q at *
          obtain ⟨M, hM⟩ : ∃ M, Hid (newB l r k = M) := ⟨_, (rfl : newB l r k = newB l r k)⟩
          rw [hM.out] at hnk ⊢
          clear hwin hnx hl4 hr4 hfin
          cases P with
          | true =>
            obtain rfl := hwk.out rfl
            cases M with
            | true =>
              go_wp2_with fail
              refine c1.out.mono ?_
              rintro e w1 ⟨rfl, rfl⟩
              go_wp2_with fail
              refine c2.out.mono ?_
              rintro e w1 ⟨rfl, rfl⟩
              go_wp2_with fail
              go_roundw
              case rel => exact ⟨k + 1, hmea, by go_num, by rw [hnk.out]; rfl, rfl⟩
              case measure => simp [intOf]; omega
            | false =>
              go_wp2_with fail
              refine c1.out.mono ?_
              rintro e w1 ⟨rfl, rfl⟩
              go_wp2_with fail
              refine c2.out.mono ?_
              rintro e w1 ⟨rfl, rfl⟩
              go_wp2_with fail
              refine c2.out.mono ?_
              rintro e w1 ⟨rfl, rfl⟩
              go_wp2_with fail
              refine c1.out.mono ?_
              rintro e w1 ⟨rfl, rfl⟩
              go_wp2_with fail
              go_roundw
              case rel => exact ⟨k + 1, hmea, by go_num, by rw [hnk.out]; rfl, rfl⟩
              case measure => simp [intOf]; omega
          | false =>
            cases M with
            | true =>
              go_wp2_with fail
              refine c1.out.mono ?_
              rintro e w1 ⟨rfl, rfl⟩
              go_wp2_with fail
              go_roundw
              case rel => exact ⟨k + 1, hmea, by go_num, by rw [hnk.out]; rfl, rfl⟩
              case measure => simp [intOf]; omega
            | false =>
              cases Q with
              | true =>
                go_wp2_with fail
                refine c1.out.mono ?_
                rintro e w1 ⟨rfl, rfl⟩
                go_wp2_with fail
                refine c2.out.mono ?_
                rintro e w1 ⟨rfl, rfl⟩
                go_wp2_with fail
                refine c1.out.mono ?_
                rintro e w1 ⟨rfl, rfl⟩
                go_wp2_with fail
                go_roundw
                case rel => exact ⟨k + 1, hmea, by go_num, by rw [hnk.out]; rfl, rfl⟩
                case measure => simp [intOf]; omega
              | false =>
                go_wp2_with fail
                refine c1.out.mono ?_
                rintro e w1 ⟨rfl, rfl⟩
                go_wp2_with fail
                refine c2.out.mono ?_
                rintro e w1 ⟨rfl, rfl⟩
                go_wp2_with fail
                go_roundw
                case rel => exact ⟨k + 1, hmea, by go_num, by rw [hnk.out]; rfl, rfl⟩
                case measure => simp [intOf]; omega
        · have hkl : k = 2 ^ N := by omega
          have hb1 : ¬ (k : Int) < (2 : Int) ^ N % 4294967296 := by rw [hp.out]; omega
          have hM : newB l r k = true := by rw [hkl]; exact hfin.out
          rw [hM]
          clear hkl hlt hk hl4 hr4 hwin hnx
          go_wp2_with fail
          go_ret
          exact ⟨rfl, hB4H.out⟩
  · have hu0 : u ≠ 0 := fun e => by rw [e, betL_zero] at hr20; omega
    have hf := Lib.hid (fun (w2 : World) (hB : Below w.heap.size w w2) => hfu.out w2 false hB ⟨(nomatch ·), fun h => absurd (huH.out.full.2 h) hu0⟩)
    have hle : l.length = 20 := by
      rw [betL_add l hu0] at hr20
      have := addW_len l u
      omega
    have hleI : ((l.length : Int) == 20) = true := by rw [hle]; rfl
    clear hle hfu hsc hmt hws hwl hu hr20 hB1
    go_wp2_with fail
    refine hm'.out.mono ?_
    rintro e w2 ⟨rfl, hB2⟩
    have hB2H := Lib.hid (hBH.out.trans (hB2.mono hBH.out.size))
    have hf' := Lib.hid (hf.out w2 hB2H.out)
    clear hf hm' hB2
    go_wp2_with fail
    refine hf'.out.mono ?_
    rintro e w3 ⟨rfl, rfl⟩
    go_wp2_with fail
    go_ret
    exact ⟨rfl, hB2H.out⟩
#print axioms quorumBetters_law
end Go.Proofs.Ytgamppdfjbcbeaa
