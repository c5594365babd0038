/-
  The contracts of quorum.checkVotes, of its closure with slices.IndexFunc and ContainsFunc at []int, and of quorum.total.
-/
import Derived.Test.YtgamppdfjbcbeaaUvp
import Derived.Test.YtgamppdfjbcbeaaRowW
import Derived.KernelRfl
import Derived.BigQuiet
import Derived.Deep.QuietTactic
namespace Go.Proofs.Ytgamppdfjbcbeaa
open Go.RowKit Go.Maps
set_option linter.unusedVariables false

set_option maxHeartbeats 400000 in
theorem voteCl_any (x : Int) (w : World) : Calls Try.prog 46 #[.int .i64 x] w fun e w' => e = .returned (.bool (badV x)) ∧ w = w' := by
  by_cases h1 : x < 0
  · have hb : Hid (badV x = true) := (badV_iff x).2 (.inl h1)
    go_enter Try.func46, Try.ntmps46
    go_wp2_with fail
    go_ret
    exact ⟨by rw [hb.out]; rfl, rfl⟩
  · by_cases h2 : 100 < x
    · have hb : Hid (badV x = true) := (badV_iff x).2 (.inr h2)
      go_enter Try.func46, Try.ntmps46
      go_wp2_with fail
      go_ret
      exact ⟨by rw [hb.out]; simp, rfl⟩
    · have hb : Hid (badV x = false) := by
        unfold Hid
        rw [← Bool.not_eq_true, badV_iff]; omega
      go_enter Try.func46, Try.ntmps46
      go_wp2_with fail
      go_ret
      exact ⟨by rw [hb.out]; simp, rfl⟩

def VdxRes (v : List Int) (w : World) (e : Ending) (w' : World) : Prop := ∃ r : Int, e = .returned (.int .i64 r) ∧ (badVs v ↔ 0 ≤ r) ∧ w = w'
set_option maxHeartbeats 1600000 in
theorem indexV_any (cap : Nat) (w : World) (A : Option Addr) (v : List Int) (hq : Nums w w.heap.size A v) (hl : v.length ≤ 1000) :
    Calls Try.prog 49 #[.slice A v.length cap, .func (.func 46) #[] #[]] w (VdxRes v w) := by
  have hqH := Lib.hid hq
  have hyes : Hid (∀ k, k < v.length → badV (vat v k) = true → badVs v) := fun k hk h => ⟨k, hk, h⟩
  clear hq
  go_enter Try.func49, Try.ntmps49
  go_wp2_with fail
  go_loopw [8] (fun i wr => ∃ k : Nat, k ≤ v.length ∧ i = .int .i64 k ∧ w = wr ∧ Hid (∀ j, j < k → badV (vat v j) = false)) (fun i _ => v.length - (intOf i).toNat)
  case atStart => exact ⟨0, Nat.zero_le _, rfl, rfl, fun _ h => absurd h (Nat.not_lt_zero _)⟩
  case round =>
    obtain ⟨k, hk, rfl, hw, hr⟩ := hrel
    subst hw
    by_cases hlt : k < v.length
    · obtain ⟨b, off, rfl, hb, c0⟩ := hqH.out.vote hlt
      have hkI : (k : Int) < (v.length : Int) := by omega
      have hcl := Lib.hid (voteCl_any (vat v k) w)
      have hy := Lib.hid (hyes.out k hlt)
      have hn3 : Hid (badV (vat v k) = false → ∀ j, j < k + 1 → badV (vat v j) = false) := fun e j hj => by
        by_cases ej : j = k
        · subst ej; exact e
        · exact hr.out j (by omega)
      clear hyes
      generalize hR : badV (vat v k) = R at hcl hy hn3
      clear hR
      obtain ⟨x, hx⟩ : ∃ x, Hid (vat v k = x) := ⟨_, (rfl : vat v k = vat v k)⟩
      rw [hx.out] at c0 hcl
      cases R with
      | true =>
        have hyy := Lib.hid (hy.out rfl)
        clear hn3 hy
        go_wp2_with fail
        refine hcl.out.mono ?_
        rintro e w1 ⟨rfl, rfl⟩
        go_wp2_with fail
        go_ret
        exact ⟨k, rfl, ⟨fun _ => by omega, fun _ => hyy.out⟩, rfl⟩
      | false =>
        have hn4 := Lib.hid (hn3.out rfl)
        clear hn3 hy
        go_wp2_with fail
        refine hcl.out.mono ?_
        rintro e w1 ⟨rfl, rfl⟩
        go_wp2_with fail
        go_roundw
        case rel => exact ⟨k + 1, by omega, by go_num, trivial, hn4.out⟩
        case measure => simp [intOf]; omega
    · have hkl : k = v.length := by omega
      subst hkl
      go_wp2_with fail
      go_ret
      refine ⟨-1, rfl, ⟨fun h => ?_, fun h => by omega⟩, rfl⟩
      obtain ⟨j, hj, e⟩ := h
      rw [hr.out j hj] at e
      cases e

set_option maxHeartbeats 800000 in
theorem containsV_any (cap : Nat) (w : World) (A : Option Addr) (v : List Int) (hq : Nums w w.heap.size A v) (hl : v.length ≤ 1000) (C : Bool) (hC : C = true ↔ badVs v) :
    Calls Try.prog 47 #[.slice A v.length cap, .func (.func 46) #[] #[]] w fun e w' => e = .returned (.bool C) ∧ w = w' := by
  have hc := Lib.hid (indexV_any cap w A v hq hl)
  have hCH := Lib.hid hC
  unfold VdxRes at hc
  clear hC hq
  go_enter Try.func47, Try.ntmps47
  go_wp2_with fail
  refine hc.out.mono ?_
  rintro e w1 ⟨r, rfl, hr, rfl⟩
  have hkC : Hid (C = decide (0 ≤ r)) := by
    unfold Hid
    rw [Bool.eq_iff_iff, hCH.out, hr]
    simp
  clear hr hCH
  go_wp2_with fail
  go_ret
  exact ⟨by rw [hkC.out]; rfl, rfl⟩

set_option maxHeartbeats 800000 in
theorem checkVotes_any (cap : Nat) (m : Int) (A : Option Addr) (v : List Int) (w : World) (hq : Nums w w.heap.size A v) (hl : v.length ≤ maxLen) :
    Calls Try.prog 33 #[.slice A v.length cap, .int .i64 m] w fun e w' => e = .returned (.int .i64 (vCode v m)) ∧ w = w' := by
  by_cases h1 : v.length < 1
  · have hx := Lib.hid (vCode_large (m := m) (.inl h1 : v.length < 1 ∨ 6 < v.length))
    have h1I : (v.length : Int) < 1 := by omega
    generalize vCode v m = x at *
    obtain rfl := hx.out
    clear hq
    go_enter Try.func33, Try.ntmps33
    go_wp2_with fail
    go_ret
    exact ⟨rfl, rfl⟩
  · have h1I : ¬ (v.length : Int) < 1 := by omega
    by_cases h2 : 6 < v.length
    · have hx := Lib.hid (vCode_large (m := m) (.inr h2 : v.length < 1 ∨ 6 < v.length))
      have h2I : 6 < (v.length : Int) := by omega
      generalize vCode v m = x at *
      obtain rfl := hx.out
      clear hq
      go_enter Try.func33, Try.ntmps33
      go_wp2_with fail
      go_ret
      exact ⟨rfl, rfl⟩
    · have h2I : ¬ 6 < (v.length : Int) := by omega
      have hno : ¬ (v.length < 1 ∨ 6 < v.length) := by omega
      by_cases h3 : badVs v
      · have hx := Lib.hid (vCode_range (m := m) hno (.inl h3))
        have hc := Lib.hid (containsV_any cap w A v hq (by omega) true ⟨fun _ => h3, fun _ => rfl⟩)
        generalize vCode v m = x at *
        obtain rfl := hx.out
        clear hq hno h3
        go_enter Try.func33, Try.ntmps33
        go_wp2_with fail
        refine hc.out.mono ?_
        rintro e w1 ⟨rfl, rfl⟩
        go_wp2_with fail
        go_ret
        exact ⟨rfl, rfl⟩
      · have hc := Lib.hid (containsV_any cap w A v hq (by omega) false ⟨(nomatch ·), fun h => absurd h h3⟩)
        by_cases h4 : m < 1
        · have hx := Lib.hid (vCode_range (m := m) hno (.inr h4))
          generalize vCode v m = x at *
          obtain rfl := hx.out
          clear hq hno h3
          go_enter Try.func33, Try.ntmps33
          go_wp2_with fail
          refine hc.out.mono ?_
          rintro e w1 ⟨rfl, rfl⟩
          go_wp2_with fail
          go_ret
          exact ⟨rfl, rfl⟩
        · have hx := Lib.hid (vCode_ok (m := m) hno (fun h => h.elim h3 h4))
          generalize vCode v m = x at *
          obtain rfl := hx.out
          clear hq hno h3
          go_enter Try.func33, Try.ntmps33
          go_wp2_with fail
          refine hc.out.mono ?_
          rintro e w1 ⟨rfl, rfl⟩
          go_wp2_with fail
          go_ret
          exact ⟨rfl, rfl⟩

theorem shift_val (x i : Nat) (hx : x < 4294967296) : (bits BinOp.and IntKind.u32 ((x : Int) / 2 ^ i) 1 == 1) = x.testBit i := by
  have e : (x : Int) / 2 ^ i = ((x / 2 ^ i : Nat) : Int) := by simp
  have hl : x / 2 ^ i < 4294967296 := Nat.lt_of_le_of_lt (Nat.div_le_self _ _) hx
  rw [e, show (1 : Int) = ((1 : Nat) : Int) from rfl, u32_and_nat _ 1 hl (by decide), Nat.and_one_is_mod, Nat.testBit_eq_decide_div_mod_eq]
  rw [Bool.eq_iff_iff]
  simp
  omega
set_option maxHeartbeats 800000 in
theorem total_any (cap s : Nat) (A : Option Addr) (v : List Int) (w : World) (hs : s < 4294967296) (hq : Nums w w.heap.size A v) (h6 : v.length ≤ 6) (hok : VOk v) :
    Calls Try.prog 36 #[.slice A v.length cap, .int .u32 (s : Int)] w fun e w' => e = .returned (.int .i64 (totV v s)) ∧ w = w' := by
  have hqH := Lib.hid hq
  have hrg : Hid (∀ k, k ≤ v.length → 0 ≤ sumV v s k ∧ sumV v s k ≤ 100 * (k : Int)) := fun k hk => sumV_range hok s hk
  have hokH := Lib.hid hok
  have hfin : Hid (totV v s = sumV v s v.length) := rfl
  have hbv : Hid (∀ i : Nat, (bits BinOp.and IntKind.u32 ((s : Int) / 2 ^ i) 1 == 1) = s.testBit i) := fun i => shift_val s i hs
  clear hq hok
  go_enter Try.func36, Try.ntmps36
  go_wp2_with fail
  go_loopw [10, 5] (fun i t wr => ∃ k : Nat, k ≤ v.length ∧ i = .int .i64 k ∧ t = .int .i64 (sumV v s k) ∧ w = wr) (fun i _ _ => v.length - (intOf i).toNat)
  case atStart => exact ⟨0, Nat.zero_le _, rfl, rfl, rfl⟩
  case round =>
    obtain ⟨k, hk, rfl, rfl, hw⟩ := hrel
    subst hw
    by_cases hlt : k < v.length
    · obtain ⟨b, off, rfl, hb, c0⟩ := hqH.out.vote hlt
      have hkI : (k : Int) < (v.length : Int) := by omega
      have hk32 : (k : Int) < 32 := by omega
      obtain ⟨r1, r2⟩ := hrg.out k hk
      obtain ⟨r3, r4⟩ := hokH.out k hlt
      have hn1 : Hid (s.testBit k = true → sumV v s (k + 1) = sumV v s k + vat v k) := fun h => by unfold Hid at *; rw [sumV, if_pos h]
      have hn0 : Hid (s.testBit k = false → sumV v s (k + 1) = sumV v s k) := fun h => by rw [sumV, if_neg (by rw [h]; decide)]; omega
      have hbk := hbv.out k
      clear hrg hokH hbv
      obtain ⟨S, hS⟩ : ∃ S, Hid (sumV v s k = S) := ⟨_, (rfl : sumV v s k = sumV v s k)⟩
      obtain ⟨x, hx⟩ : ∃ x, Hid (vat v k = x) := ⟨_, (rfl : vat v k = vat v k)⟩
      rw [hx.out] at c0 r3 r4 hn1
      rw [hS.out] at r1 r2 hn1 hn0 ⊢
      cases e : s.testBit k with
      | true =>
        have hnx := Lib.hid (hn1.out e)
        rw [e] at hbk
        clear hn1 hn0 e
        go_wp2_with fail
        go_roundw
        case rel => exact ⟨k + 1, by omega, by go_num, by rw [hnx.out], trivial⟩
        case measure => simp [intOf]; omega
      | false =>
        have hnx := Lib.hid (hn0.out e)
        rw [e] at hbk
        clear hn1 hn0 e
        go_wp2_with fail
        go_roundw
        case rel => exact ⟨k + 1, by omega, by go_num, by rw [hnx.out], trivial⟩
        case measure => simp [intOf]; omega
    · have hkl : k = v.length := by omega
      subst hkl
      go_wp2_with fail
      go_ret
      exact ⟨by rw [hfin.out]; rfl, rfl⟩
#print axioms checkVotes_any
#print axioms total_any
end Go.Proofs.Ytgamppdfjbcbeaa
