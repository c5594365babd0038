/-
  The contracts of beaconryref.Wins, SetsCheck, Meet, Full, of beaconrykeep.met and beaconrylaw.meetCode's parts.
-/
import Derived.Test.YtgamppdfjbcbeaaUqo
import Derived.Test.YtgamppdfjbcbeaaRowW
import Derived.KernelRfl
import Derived.BigQuiet
import Derived.Deep.QuietTactic
namespace Go.Proofs.Ytgamppdfjbcbeaa
open Go.RowKit Go.Maps
set_option linter.unusedVariables false

theorem or_val (s x : Nat) (hs : s < 4294967296) (hx : x < 4294967296) : (bits BinOp.or IntKind.u32 (x : Int) (s : Int) == (s : Int)) = incB s x := by
  rw [u32_or_nat x s hx hs, Bool.eq_iff_iff, beq_iff_eq]
  unfold incB
  rw [beq_iff_eq]
  omega
set_option maxHeartbeats 800000 in
theorem refWins_any (s cap : Nat) (A : Option Addr) (l : List Nat) (w : World) (hs : s < 4294967296) (hq : Wds w w.heap.size A l) (hF : WFits l) (hl : l.length ≤ 1000) :
    Calls Try.prog 16 #[.slice A l.length cap, .int .u32 (s : Int)] w fun e w' => e = .returned (.bool (winB l s)) ∧ w = w' := by
  have hqH := Lib.hid hq
  have hyes : Hid (∀ j, j < l.length → incB s (wat l j) = true → winB l s = true) := fun j hj h => (winB_at l s).2 ⟨j, hj, h⟩
  have hno : Hid ((∀ a, a < l.length → incB s (wat l a) = false) → winB l s = false) := fun h => by
    rw [← Bool.not_eq_true, winB_at]
    rintro ⟨i, hi, e⟩
    rw [h i hi] at e
    cases e
  generalize winB l s = C at *
  clear hq
  go_enter Try.func16, Try.ntmps16
  go_wp2_with fail
  go_loop [9] (fun t => ∃ j : Nat, j ≤ l.length ∧ t = .int .i64 j ∧ Hid (∀ a, a < j → incB s (wat l a) = false)) (fun t => l.length - (intOf t).toNat)
  case atStart => exact ⟨0, Nat.zero_le _, rfl, fun _ h => absurd h (Nat.not_lt_zero _)⟩
  case round =>
    obtain ⟨j, hj, rfl, hr⟩ := hrel
    by_cases hlt : j < l.length
    · obtain ⟨b2, off, rfl, hb, hc⟩ := hqH.out (by omega)
      have c0 := hc j hlt
      clear hc
      have hv := or_val s (wat l j) hs (hF j)
      have hy1 := Lib.hid (hyes.out j hlt)
      have hn2 : Hid (incB s (wat l j) = false → ∀ a, a < j + 1 → incB s (wat l a) = false) := fun e0 a h => by
        by_cases e : a = j
        · subst e; exact e0
        · exact hr.out a (by omega)
      have hjI : (j : Int) < (l.length : Int) := by omega
      generalize incB s (wat l j) = R at *
      generalize wat l j = x at *
      cases R with
      | true =>
        have hC := Lib.hid (hy1.out rfl)
        obtain rfl := hC.out
        clear hn2
        go_wp2_with fail
        go_ret
        exact ⟨rfl, rfl⟩
      | false =>
        have hn3 := Lib.hid (hn2.out rfl)
        clear hn2 hy1
        go_wp2_with fail
        go_round
        case rel => exact ⟨j + 1, by omega, by go_num, hn3⟩
        case measure => simp [intOf]; omega
    · have hjl : j = l.length := by omega
      subst hjl
      have hC := Lib.hid (hno.out hr.out)
      obtain rfl := hC.out
      go_wp2_with fail
      go_ret
      exact ⟨rfl, rfl⟩

set_option maxHeartbeats 1600000 in
theorem setsCheck_any (n : Int) (cap : Nat) (A : Option Addr) (l : List Nat) (s : Nat) (w : World) (hs : s < 4294967296) (hq : Wds w w.heap.size A l) (hF : WFits l) (hl : l.length ≤ maxLen) :
    Calls Try.prog 13 #[.int .i64 n, .slice A l.length cap, .int .u32 (s : Int)] w fun e w' => e = .returned (.int .i64 (setsCode3 n l s)) ∧ w = w' := by
  by_cases hlg : n < 1 ∨ 6 < n ∨ 20 < l.length
  · have hx0 := setsCode_large hlg
    have hx : Hid (setsCode3 n l s = 1) := by
      unfold Hid
      rw [setsCode3_sets (by rw [hx0]; decide), hx0]
    clear hx0
    generalize setsCode3 n l s = x at *
    obtain rfl := hx.out
    clear hq
    by_cases h1 : n < 1
    · clear hlg
      go_enter Try.func13, Try.ntmps13
      go_wp2_with fail
      go_ret
      exact ⟨rfl, rfl⟩
    · by_cases h2 : 6 < n
      · clear hlg
        go_enter Try.func13, Try.ntmps13
        go_wp2_with fail
        go_ret
        exact ⟨rfl, rfl⟩
      · have h3I : (20 : Int) < (l.length : Int) := by omega
        clear hlg
        go_enter Try.func13, Try.ntmps13
        go_wp2_with fail
        go_ret
        exact ⟨rfl, rfl⟩
  · have h3I : ¬ (20 : Int) < (l.length : Int) := by omega
    obtain ⟨N, hN⟩ : ∃ N : Nat, n = (N : Int) := ⟨n.toNat, by omega⟩
    have hNt : n.toNat = N := by omega
    subst hN
    have h1I : ¬ (N : Int) < 1 := by omega
    have h6I : ¬ (6 : Int) < (N : Int) := by omega
    have hN32 : N < 32 := by omega
    have hqH := Lib.hid hq
    have hyes : Hid (∀ j, j < l.length → badW N (wat l j) = true → setsCode3 N l s = 4) := fun j hj h => by
      have := setsCode_range hlg (by rw [hNt]; exact ⟨j, hj, h⟩)
      rw [setsCode3_sets (by rw [this]; decide), this]
    have hall : Hid ((∀ j, j < l.length → badW N (wat l j) = false) → ¬ badIn N l) := fun h => by
      rintro ⟨i, hi, e⟩
      rw [h i hi] at e
      cases e
    have hend1 : Hid (¬ badIn N l → s < 2 ^ N → setsCode3 N l s = 0) := fun h h' => setsCode3_ok (setsCode_ok hlg (by rw [hNt]; exact h)) (by rw [hNt]; exact h')
    have hend2 : Hid (¬ badIn N l → 2 ^ N ≤ s → setsCode3 N l s = 4) := fun h h' => setsCode3_range (setsCode_ok hlg (by rw [hNt]; exact h)) (by rw [hNt]; exact h')
    have hp := Lib.hid (pow_mod N (by omega))
    generalize setsCode3 (N : Int) l s = X at *
    clear hq hlg hNt
    go_enter Try.func13, Try.ntmps13
    go_wp2_with fail
    go_loop [22] (fun t => ∃ j : Nat, j ≤ l.length ∧ t = .int .i64 j ∧ Hid (∀ a, a < j → badW N (wat l a) = false)) (fun t => l.length - (intOf t).toNat)
    case atStart => exact ⟨0, Nat.zero_le _, rfl, fun _ h => absurd h (Nat.not_lt_zero _)⟩
    case round =>
      obtain ⟨j, hj, rfl, hr⟩ := hrel
      by_cases hlt : j < l.length
      · obtain ⟨b2, off, rfl, hb, hc⟩ := hqH.out (by omega)
        have c0 := hc j hlt
        clear hc
        have hjI : (j : Int) < (l.length : Int) := by omega
        have hy1 := Lib.hid (hyes.out j hlt)
        have hn2 : Hid (badW N (wat l j) = false → ∀ a, a < j + 1 → badW N (wat l a) = false) := fun e0 a h => by
          by_cases e : a = j
          · subst e; exact e0
          · exact hr.out a (by omega)
        have hd : Hid (badW N (wat l j) = (wat l j == 0 || !decide (wat l j < 2 ^ N))) := rfl
        generalize badW N (wat l j) = R at *
        generalize wat l j = x at *
        by_cases hx0 : x = 0
        · have hX := Lib.hid (hy1.out (by rw [hd.out, hx0]; rfl))
          obtain rfl := hX.out
          subst hx0
          clear hn2 hy1 hd
          go_wp2_with fail
          go_ret
          exact ⟨rfl, rfl⟩
        · have v1 : ((x : Int) == 0) = false := by rw [beq_eq_false_iff_ne]; omega
          have v0 : (x == 0) = false := by rw [beq_eq_false_iff_ne]; omega
          by_cases hf : 2 ^ N ≤ x
          · have hX := Lib.hid (hy1.out (by rw [hd.out, v0, decide_eq_false (by omega)]; rfl))
            have hb1 : ((2 : Int) ^ N % 4294967296 ≤ (x : Int)) := by rw [hp.out]; omega
            obtain rfl := hX.out
            clear hn2 hy1 hd hx0 v0 hf
            go_wp2_with fail
            go_ret
            exact ⟨rfl, rfl⟩
          · have hn3 := Lib.hid (hn2.out (by rw [hd.out, v0, decide_eq_true (by omega)]; rfl))
            have hb1 : ¬ ((2 : Int) ^ N % 4294967296 ≤ (x : Int)) := by rw [hp.out]; omega
            clear hn2 hy1 hd hx0 v0 hf
            go_wp2_with fail
            go_round
            case rel => exact ⟨j + 1, by omega, by go_num, hn3⟩
            case measure => simp [intOf]; omega
      · have hjl : j = l.length := by omega
        subst hjl
        by_cases hf : 2 ^ N ≤ s
        · have hX := Lib.hid (hend2.out (hall.out hr.out) hf)
          have hb1 : ((2 : Int) ^ N % 4294967296 ≤ (s : Int)) := by rw [hp.out]; omega
          obtain rfl := hX.out
          clear hf
          go_wp2_with fail
          go_ret
          exact ⟨rfl, rfl⟩
        · have hX := Lib.hid (hend1.out (hall.out hr.out) (by omega))
          have hb1 : ¬ ((2 : Int) ^ N % 4294967296 ≤ (s : Int)) := by rw [hp.out]; omega
          obtain rfl := hX.out
          clear hf
          go_wp2_with fail
          go_ret
          exact ⟨rfl, rfl⟩

/-- The document's test of two sets. -/
def rcl (a b : Nat) : Bool := a &&& b == 0 || incB b a
theorem rcl_clash (a b : Nat) : clash a b = (rcl a b || rcl b a) := by
  unfold clash rcl
  rw [Nat.and_comm b a]
  cases (a &&& b == 0) <;> cases incB a b <;> cases incB b a <;> rfl
theorem rcl_cot {l : List Nat} (h : ∀ i, i < l.length → ∀ j, j < l.length → i ≠ j → rcl (wat l i) (wat l j) = false) : Cot l := fun i j hi hj hij => by
  rw [rcl_clash, h i hi j hj hij, h j hj i hi (by omega)]
  rfl
theorem rcl_no {l : List Nat} {i j : Nat} (hi : i < l.length) (hj : j < l.length) (hij : i ≠ j) (h : rcl (wat l i) (wat l j) = true) : ¬ Cot l := fun hc => by
  have := hc i j hi hj hij
  rw [rcl_clash, h] at this
  cases this
theorem and_zero_nat (s x : Nat) (hs : s < 4294967296) (hx : x < 4294967296) : (bits BinOp.and IntKind.u32 (s : Int) (x : Int) == 0) = (s &&& x == 0) := by
  rw [u32_and_nat s x hs hx, Bool.eq_iff_iff, beq_iff_eq, beq_iff_eq]
  omega
def RmRel (w : World) (wr : World) : Prop := Below w.heap.size w wr
set_option maxHeartbeats 3200000 in
theorem refMeet_any (cap : Nat) (A : Option Addr) (l : List Nat) (w : World) (hq : Wds w w.heap.size A l) (hF : WFits l) (hl : l.length ≤ 1000) (C : Bool) (hC : C = true ↔ Cot l) :
    Calls Try.prog 14 #[.slice A l.length cap] w fun e w' => e = .returned (.bool C) ∧ Below w.heap.size w w' := by
  have hqH := Lib.hid hq
  have hyes : Hid ((∀ i, i < l.length → ∀ j, j < l.length → i ≠ j → rcl (wat l i) (wat l j) = false) → C = true) := fun h => hC.2 (rcl_cot h)
  have hno : Hid (∀ i j, i < l.length → j < l.length → i ≠ j → rcl (wat l i) (wat l j) = true → C = false) := fun i j hi hj hij h => by
    rw [← Bool.not_eq_true, hC]
    exact rcl_no hi hj hij h
  clear hq hC
  go_enter Try.func14, Try.ntmps14
  go_wp2_with fail
  go_loopw [3] (fun t wr => ∃ i : Nat, i ≤ l.length ∧ t = .int .i64 i ∧ RmRel w wr ∧ Hid (∀ a, a < i → ∀ j, j < l.length → a ≠ j → rcl (wat l a) (wat l j) = false)) (fun t _ => l.length - (intOf t).toNat)
  case atStart => exact ⟨0, Nat.zero_le _, rfl, Below.refl _ _, fun _ h => absurd h (Nat.not_lt_zero _)⟩
  case round =>
    obtain ⟨i, hi, rfl, hB, hr⟩ := hrel
    rename World => w1
    unfold RmRel at hB
    by_cases hlt : i < l.length
    · have hiI : (i : Int) < (l.length : Int) := by omega
      have hBo := Lib.hid hB
      clear hB
      go_wp2_with fail
      go_loopw [4] (fun t wr => ∃ j : Nat, j ≤ l.length ∧ t = .int .i64 j ∧ RmRel w wr ∧ Hid (∀ a, a < j → i ≠ a → rcl (wat l i) (wat l a) = false)) (fun t _ => l.length - (intOf t).toNat)
      case atStart => exact ⟨0, Nat.zero_le _, rfl, hBo.out, fun _ h => absurd h (Nat.not_lt_zero _)⟩
      case round =>
        obtain ⟨j, hj, rfl, hB, hrj⟩ := hrel
        rename World => w2
        unfold RmRel at hB
        by_cases hltj : j < l.length
        · obtain ⟨b2, off, rfl, hb, hc⟩ := hqH.out.below hB (by omega)
          have c0 := hc i hlt
          have c1 := hc j hltj
          clear hc
          have hjI : (j : Int) < (l.length : Int) := by omega
          have hn2 : Hid ((i ≠ j → rcl (wat l i) (wat l j) = false) → ∀ a, a < j + 1 → i ≠ a → rcl (wat l i) (wat l a) = false) := fun e0 a h => by
            by_cases e : a = j
            · subst e; exact e0
            · exact hrj.out a (by omega)
          have hn1 := Lib.hid (hno.out i j hlt hltj)
          by_cases hij : i = j
          · subst hij
            have hn3 := Lib.hid (hn2.out fun h => absurd rfl h)
            clear hn2 hn1 c1
            obtain ⟨x, hxx⟩ : ∃ x, Hid (wat l i = x) := ⟨_, (rfl : wat l i = wat l i)⟩
            rw [hxx.out] at c0
            go_wp2_with fail
            go_quiet (fail)
            go_wp2_with fail
            go_roundw
            case rel => exact ⟨i + 1, by omega, by go_num, below_drewN hB _, hn3⟩
            case measure => simp [intOf]; omega
          · have hijI : ((i : Int) == (j : Int)) = false := by rw [beq_eq_false_iff_ne]; omega
            have v1 := and_zero_nat (wat l i) (wat l j) (hF i) (hF j)
            have v2 := or_val (wat l j) (wat l i) (hF j) (hF i)
            have hd : Hid (rcl (wat l i) (wat l j) = (wat l i &&& wat l j == 0 || incB (wat l j) (wat l i))) := rfl
            have hijN := Lib.hid (show i ≠ j from hij)
            generalize incB (wat l j) (wat l i) = Q at v2 hd
            generalize (wat l i &&& wat l j == 0) = Z at v1 hd
            generalize hRx : rcl (wat l i) (wat l j) = R at hn1 hn2 hd
            clear hRx
            obtain ⟨x, hxx⟩ : ∃ x, Hid (wat l i = x) := ⟨_, (rfl : wat l i = wat l i)⟩
            obtain ⟨y, hyy⟩ : ∃ y, Hid (wat l j = y) := ⟨_, (rfl : wat l j = wat l j)⟩
            rw [hxx.out] at c0 v1 v2
            rw [hyy.out] at c1 v1 v2
            clear hij
            have hijB : ((i : Int) != (j : Int)) = true := by rw [bne_iff_ne]; have := hijN.out; omega
            have hijE : ¬ (i : Int) = (j : Int) := by have := hijN.out; omega
            cases Z with
            | true =>
              have hC0 := Lib.hid (hn1.out hijN.out (by rw [hd.out]; rfl))
              obtain rfl := hC0.out
              clear hn1 hn2 hd
              go_wp2_with fail
              go_quiet (fail)
              go_wp2_with fail
              go_ret
              exact ⟨rfl, below_drewN hB _⟩
            | false =>
              cases Q with
              | true =>
                have hC0 := Lib.hid (hn1.out hijN.out (by rw [hd.out]; rfl))
                obtain rfl := hC0.out
                clear hn1 hn2 hd
                go_wp2_with fail
                go_quiet (fail)
                go_wp2_with fail
                go_ret
                exact ⟨rfl, below_drewN hB _⟩
              | false =>
                have hn3 := Lib.hid (hn2.out fun _ => by rw [hd.out]; rfl)
                clear hn1 hn2 hd
                go_wp2_with fail
                go_quiet (fail)
                go_wp2_with fail
                go_roundw
                case rel => exact ⟨j + 1, by omega, by go_num, below_drewN hB _, hn3⟩
                case measure => simp [intOf]; omega
        · have hjl : j = l.length := by omega
          subst hjl
          have hn3 : Hid (∀ a, a < i + 1 → ∀ j, j < l.length → a ≠ j → rcl (wat l a) (wat l j) = false) := fun a ha j hj => by
            by_cases e : a = i
            · subst e; exact hrj.out j hj
            · exact hr.out a (by omega) j hj
          go_wp2_with fail
          go_roundw
          case rel => exact ⟨i + 1, by omega, by go_num, hB, hn3⟩
          case measure => simp [intOf]; omega
    · have hil : i = l.length := by omega
      subst hil
      have hC0 := Lib.hid (hyes.out hr.out)
      obtain rfl := hC0.out
      go_wp2_with fail
      go_ret
      exact ⟨rfl, hB⟩
#print axioms refWins_any
#print axioms setsCheck_any
#print axioms refMeet_any
end Go.Proofs.Ytgamppdfjbcbeaa
