/-
  The contracts of quorum.Meet, Wins, undecided, Full.
-/
import Derived.Test.YtgamppdfjbcbeaaUck
namespace Go.Proofs.Ytgamppdfjbcbeaa
open Go.RowKit Go.Maps
set_option linter.unusedVariables false

def TwoRes (w : World) (C : Bool) (x : Int) (e : Ending) (w' : World) : Prop := e = .returned (.tuple #[.bool C, .int .i64 x]) ∧ Below w.heap.size w w'
set_option maxHeartbeats 800000 in
theorem meet_any (cap : Nat) (n : Int) (A : Option Addr) (l : List Nat) (w : World) (hq : Wds w w.heap.size A l) (hF : WFits l) (hl : l.length ≤ maxLen) (hcap : l.length ≤ cap) (C : Bool) (hC : C = true ↔ (setsCode n l = 0 ∧ Cot l)) :
    Calls Try.prog 12 #[.int .i64 n, .slice A l.length cap] w (TwoRes w C (setsCode n l)) := by
  have hc := Lib.hid (check_any cap n A l w hq hF hl)
  unfold TwoRes
  by_cases h0 : setsCode n l = 0
  · have hlen := (setsCode_zero h0).2.1
    have ht : Hid (∀ w1, Below w.heap.size w w1 → Calls Try.prog 26 #[.slice A l.length cap] w1 fun e w' => e = .returned (.bool C) ∧ Below w1.heap.size w1 w') := fun w1 hB => isCoterie_any cap A l w1 ((hq.below hB).more hB.size) hF (by omega) hcap C (by rw [hC]; exact ⟨fun h => h.2, fun h => ⟨h0, h⟩⟩)
    rw [h0] at hc ⊢
    clear hq hC h0 hlen
    go_enter Try.func12, Try.ntmps12
    go_wp2_with fail
    refine hc.out.mono ?_
    rintro e w1 ⟨rfl, hB1⟩
    have ht' := Lib.hid (ht.out w1 hB1)
    clear ht hc
    go_wp2_with fail
    refine ht'.out.mono ?_
    rintro e w2 ⟨rfl, hB2⟩
    go_wp2_with fail
    go_ret2
    exact ⟨rfl, hB1.trans (hB2.mono hB1.size)⟩
  · have hC0 : Hid (C = false) := by
      unfold Hid
      rw [← Bool.not_eq_true, hC]
      exact fun h => h0 h.1
    generalize setsCode n l = x at *
    obtain rfl := hC0.out
    have hx0 : (x != 0) = true := by simpa using h0
    clear hq hC
    go_enter Try.func12, Try.ntmps12
    go_wp2_with fail
    refine hc.out.mono ?_
    rintro e w1 ⟨rfl, hB1⟩
    go_wp2_with fail
    go_ret2
    exact ⟨rfl, hB1⟩

set_option maxHeartbeats 800000 in
theorem wins_any (cap : Nat) (n : Int) (A : Option Addr) (l : List Nat) (s : Nat) (w : World) (hs : s < 4294967296) (hq : Wds w w.heap.size A l) (hF : WFits l) (hl : l.length ≤ maxLen) (C : Bool) (hC : C = true ↔ (setsCode3 n l s = 0 ∧ winB l s = true)) :
    Calls Try.prog 15 #[.int .i64 n, .slice A l.length cap, .int .u32 (s : Int)] w (TwoRes w C (setsCode3 n l s)) := by
  have hc := Lib.hid (check_any cap n A l w hq hF hl)
  unfold TwoRes
  by_cases h0 : setsCode n l = 0
  · obtain ⟨hn, hlen, hok⟩ := setsCode_zero h0
    have hp : Hid (∀ w1, Calls Try.prog 27 #[.int .u32 (s : Int), .int .i64 n] w1 fun e w' => e = .returned (.bool (decide (s < 2 ^ n.toNat))) ∧ w1 = w') := fun w1 => by
      have := areProcs_any s n.toNat w1 hok.six hs
      rw [← hn] at this
      exact this
    have ht : Hid (∀ w1, Below w.heap.size w w1 → Calls Try.prog 28 #[.int .u32 (s : Int), .slice A l.length cap] w1 fun e w' => e = .returned (.bool (winB l s)) ∧ Below w1.heap.size w1 w') := fun w1 hB => includesOne_any s cap A l w1 hs ((hq.below hB).more hB.size) hF (by omega)
    by_cases h1 : s < 2 ^ n.toNat
    · have hx := setsCode3_ok h0 h1
      rw [hx] at hC ⊢
      have hCw : Hid (C = winB l s) := by
        unfold Hid
        rw [Bool.eq_iff_iff, hC]
        exact ⟨fun h => h.2, fun h => ⟨rfl, h⟩⟩
      rw [show decide (s < 2 ^ n.toNat) = true from decide_eq_true h1] at hp
      rw [h0] at hc
      generalize winB l s = R at *
      obtain rfl := hCw.out
      clear hq hC h0 h1 hn hlen hok hx
      go_enter Try.func15, Try.ntmps15
      go_wp2_with fail
      refine hc.out.mono ?_
      rintro e w1 ⟨rfl, hB1⟩
      have ht' := Lib.hid (ht.out w1 hB1)
      clear ht hc
      go_wp2_with fail
      refine (hp.out _).mono ?_
      rintro e w2 ⟨rfl, rfl⟩
      go_wp2_with fail
      refine ht'.out.mono ?_
      rintro e w2 ⟨rfl, hB2⟩
      go_wp2_with fail
      go_ret2
      exact ⟨rfl, hB1.trans (hB2.mono hB1.size)⟩
    · have hx := setsCode3_range h0 (s := s) (by omega)
      rw [hx] at hC ⊢
      have hC0 : Hid (C = false) := by
        unfold Hid
        rw [← Bool.not_eq_true, hC]
        exact fun h => absurd h.1 (by omega)
      rw [show decide (s < 2 ^ n.toNat) = false from decide_eq_false h1] at hp
      rw [h0] at hc
      obtain rfl := hC0.out
      clear hq hC h0 h1 hn hlen hok hx ht
      go_enter Try.func15, Try.ntmps15
      go_wp2_with fail
      refine hc.out.mono ?_
      rintro e w1 ⟨rfl, hB1⟩
      go_wp2_with fail
      refine (hp.out _).mono ?_
      rintro e w2 ⟨rfl, rfl⟩
      go_wp2_with fail
      go_ret2
      exact ⟨rfl, hB1⟩
  · have hx := setsCode3_sets (s := s) h0
    rw [hx] at hC ⊢
    have hC0 : Hid (C = false) := by
      unfold Hid
      rw [← Bool.not_eq_true, hC]
      exact fun h => h0 h.1
    clear hC hx
    generalize setsCode n l = x at *
    obtain rfl := hC0.out
    have hx0 : (x != 0) = true := by simpa using h0
    clear hq
    go_enter Try.func15, Try.ntmps15
    go_wp2_with fail
    refine hc.out.mono ?_
    rintro e w1 ⟨rfl, hB1⟩
    go_wp2_with fail
    go_ret2
    exact ⟨rfl, hB1⟩

def UnRel (w : World) (wr : World) : Prop := Below w.heap.size w wr
set_option maxHeartbeats 1600000 in
theorem undecided_any (N cap : Nat) (A : Option Addr) (l : List Nat) (w : World) (hq : Wds w w.heap.size A l) (hF : WFits l) (hok : OkS N l) (hl : l.length ≤ 1000) :
    Calls Try.prog 30 #[.int .i64 (N : Int), .slice A l.length cap] w fun e w' => ∃ u : Nat, e = .returned (.int .u32 (u : Int)) ∧ UndRes N l u ∧ Below w.heap.size w w' := by
  have h6 := hok.six
  have h64 := Nat.pow_le_pow_right (n := 2) (by omega) hok.six
  have hev : Hid (∀ w1, Calls Try.prog 42 #[.int .i64 (N : Int)] w1 fun e w' => e = .returned (.int .u32 ((2 ^ N - 1 : Nat) : Int)) ∧ w1 = w') := fun w1 => everybody_any N w1 h6
  have hio : Hid (∀ (s : Nat) (w1 : World), s < 4294967296 → Below w.heap.size w w1 → Calls Try.prog 28 #[.int .u32 (s : Int), .slice A l.length cap] w1 fun e w' => e = .returned (.bool (winB l s)) ∧ Below w1.heap.size w1 w') := fun s w1 hs hB => includesOne_any s cap A l w1 hs ((hq.below hB).more hB.size) hF hl
  have hfull : Hid ((∀ s, 1 ≤ s → s < 2 ^ N → undB N l s = false) → FullP N l) := full_from hok
  have hpos : 1 < 2 ^ N := by
    have := Nat.pow_le_pow_right (n := 2) (by omega) hok.one
    omega
  clear hq hok
  go_enter Try.func30, Try.ntmps30
  go_wp2_with fail
  go_loopw [5] (fun t wr => ∃ k : Nat, 1 ≤ k ∧ k ≤ 2 ^ N ∧ t = .int .u32 (k : Int) ∧ UnRel w wr ∧ Hid (∀ s, 1 ≤ s → s < k → undB N l s = false)) (fun t _ => 2 ^ N - (intOf t).toNat)
  case atStart => exact ⟨1, by omega, by omega, rfl, Below.refl _ _, fun a h h' => by omega⟩
  case round =>
    obtain ⟨k, hk1, hk, rfl, hB, hr⟩ := hrel
    unfold UnRel at hB
    by_cases hlt : k < 2 ^ N
    · have hcl := comp_lt N k
      have c1 := Lib.hid (hio.out k wr (by omega) hB)
      have c2 : Hid (∀ w1, Below w.heap.size w w1 → Calls Try.prog 28 #[.int .u32 (comp N k : Int), .slice A l.length cap] w1 fun e w' => e = .returned (.bool (winB l (comp N k))) ∧ Below w1.heap.size w1 w') := fun w1 h => hio.out (comp N k) w1 (by omega) h
      have hcv : bits BinOp.andNot IntKind.u32 ((2 ^ N - 1 : Nat) : Int) (k : Int) = ((comp N k : Nat) : Int) := by
        rw [u32_andNot_nat _ _ (by omega) (by omega), comp_val h6 hlt]
      have hu : Hid (undB N l k = (!winB l k && !winB l (comp N k))) := rfl
      have hn3 : Hid (undB N l k = false → ∀ s, 1 ≤ s → s < k + 1 → undB N l s = false) := fun e s h1 h2 => by
        by_cases es : s = k
        · subst es; exact e
        · exact hr.out s h1 (by omega)
      have hyes : Hid (undB N l k = true → UndRes N l k) := fun e => .inr ⟨by omega, hlt, e⟩
      have hle : (k : Int) ≤ ((2 ^ N - 1 : Nat) : Int) := by omega
      have hk32 : (k : Int) + 1 < 4294967296 := by omega
      have hmea : k + 1 ≤ 2 ^ N := hlt
      generalize comp N k = c at *
      generalize winB l k = P at *
      generalize winB l c = Q at *
      generalize undB N l k = U at *
      generalize 2 ^ N - 1 = y at *
      clear hcl hio hfull hr
      have hBH := Lib.hid hB
      clear hB
      cases P with
      | true =>
        have hn4 := Lib.hid (hn3.out (by rw [hu.out]; rfl))
        clear c2 hn3 hyes hu
        go_wp2_with fail
        refine (hev.out _).mono ?_
        rintro e w1 ⟨rfl, rfl⟩
        go_wp2_with fail
        refine c1.out.mono ?_
        rintro e w1 ⟨rfl, hB1⟩
        have hB2 := Lib.hid (hBH.out.trans (hB1.mono hBH.out.size))
        clear hB1 c1
        go_wp2_with fail
        go_roundw
        case rel => exact ⟨k + 1, by omega, hmea, by go_num, hB2.out, hn4⟩
        case measure => simp [intOf]; omega
      | false =>
        cases Q with
        | true =>
          have hn4 := Lib.hid (hn3.out (by rw [hu.out]; rfl))
          clear hn3 hyes hu
          go_wp2_with fail
          refine (hev.out _).mono ?_
          rintro e w1 ⟨rfl, rfl⟩
          go_wp2_with fail
          refine c1.out.mono ?_
          rintro e w1 ⟨rfl, hB1⟩
          have hB2 := Lib.hid (hBH.out.trans (hB1.mono hBH.out.size))
          have c3 := Lib.hid (c2.out w1 hB2.out)
          clear hB1 c1 c2
          go_wp2_with fail
          refine (hev.out _).mono ?_
          rintro e w2 ⟨rfl, rfl⟩
          go_wp2_with fail
          refine c3.out.mono ?_
          rintro e w2 ⟨rfl, hB3⟩
          have hB4 := Lib.hid (hB2.out.trans (hB3.mono hB2.out.size))
          clear hB3 c3
          go_wp2_with fail
          go_roundw
          case rel => exact ⟨k + 1, by omega, hmea, by go_num, hB4.out, hn4⟩
          case measure => simp [intOf]; omega
        | false =>
          have hu2 := Lib.hid (hyes.out (by rw [hu.out]; rfl))
          clear hn3 hyes hu
          go_wp2_with fail
          refine (hev.out _).mono ?_
          rintro e w1 ⟨rfl, rfl⟩
          go_wp2_with fail
          refine c1.out.mono ?_
          rintro e w1 ⟨rfl, hB1⟩
          have hB2 := Lib.hid (hBH.out.trans (hB1.mono hBH.out.size))
          have c3 := Lib.hid (c2.out w1 hB2.out)
          clear hB1 c1 c2
          go_wp2_with fail
          refine (hev.out _).mono ?_
          rintro e w2 ⟨rfl, rfl⟩
          go_wp2_with fail
          refine c3.out.mono ?_
          rintro e w2 ⟨rfl, hB3⟩
          have hB4 := Lib.hid (hB2.out.trans (hB3.mono hB2.out.size))
          clear hB3 c3
          go_wp2_with fail
          go_ret
          exact ⟨k, rfl, hu2.out, hB4.out⟩
    · have hkl : k = 2 ^ N := by omega
      have hu2 : Hid (UndRes N l 0) := .inl ⟨rfl, hfull.out (by rw [← hkl]; exact hr.out)⟩
      have hle : ((2 ^ N - 1 : Nat) : Int) < (k : Int) := by omega
      clear hr hfull hio
      generalize 2 ^ N - 1 = y at *
      clear hkl hlt hk hk1
      go_wp2_with fail
      refine (hev.out _).mono ?_
      rintro e w1 ⟨rfl, rfl⟩
      go_wp2_with fail
      go_ret
      exact ⟨0, rfl, hu2.out, hB⟩

set_option maxHeartbeats 800000 in
theorem full_any (cap : Nat) (n : Int) (A : Option Addr) (l : List Nat) (w : World) (hq : Wds w w.heap.size A l) (hF : WFits l) (hl : l.length ≤ maxLen) (hcap : l.length ≤ cap) (C : Bool) (hC : C = true ↔ (cotCode n l = 0 ∧ FullP n.toNat l)) :
    Calls Try.prog 17 #[.int .i64 n, .slice A l.length cap] w (TwoRes w C (cotCode n l)) := by
  have hc := Lib.hid (checkCoterie_any cap n A l w hq hF hl hcap)
  unfold TwoRes
  by_cases h0 : cotCode n l = 0
  · obtain ⟨hn, hlen, hok⟩ := setsCode_zero (cotCode_zero h0).1
    have ht : Hid (∀ w1, Below w.heap.size w w1 → Calls Try.prog 30 #[.int .i64 n, .slice A l.length cap] w1 fun e w' => ∃ u : Nat, e = .returned (.int .u32 (u : Int)) ∧ UndRes n.toNat l u ∧ Below w1.heap.size w1 w') := fun w1 hB => by
      have := undecided_any n.toNat cap A l w1 ((hq.below hB).more hB.size) hF hok (by omega)
      rw [← hn] at this
      exact this
    have hC1 : Hid (∀ u, UndRes n.toNat l u → C = ((u : Int) == 0)) := fun u hu => by
      rw [Bool.eq_iff_iff, hC, beq_iff_eq]
      have := hu.full
      exact ⟨fun h => by have := this.2 h.2; omega, fun h => ⟨h0, this.1 (by omega)⟩⟩
    rw [h0] at hc ⊢
    clear hq hC h0 hlen hok hn
    go_enter Try.func17, Try.ntmps17
    go_wp2_with fail
    refine hc.out.mono ?_
    rintro e w1 ⟨rfl, hB1⟩
    have ht' := Lib.hid (ht.out w1 hB1)
    clear ht hc
    go_wp2_with fail
    refine ht'.out.mono ?_
    rintro e w2 ⟨u, rfl, hu, hB2⟩
    have hu2 := Lib.hid (hC1.out u hu)
    clear hu hC1
    go_wp2_with fail
    go_ret2
    exact ⟨by rw [hu2.out]; rfl, hB1.trans (hB2.mono hB1.size)⟩
  · have hC0 : Hid (C = false) := by
      unfold Hid
      rw [← Bool.not_eq_true, hC]
      exact fun h => h0 h.1
    generalize cotCode n l = x at *
    obtain rfl := hC0.out
    have hx0 : (x != 0) = true := by simpa using h0
    clear hq hC
    go_enter Try.func17, Try.ntmps17
    go_wp2_with fail
    refine hc.out.mono ?_
    rintro e w1 ⟨rfl, hB1⟩
    go_wp2_with fail
    go_ret2
    exact ⟨rfl, hB1⟩
#print axioms meet_any
#print axioms wins_any
#print axioms undecided_any
#print axioms full_any
end Go.Proofs.Ytgamppdfjbcbeaa
