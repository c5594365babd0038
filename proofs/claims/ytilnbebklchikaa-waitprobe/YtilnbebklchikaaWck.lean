/-
  The contracts of wait.everybody, check, its closure, slices.IndexFunc and ContainsFunc at it, and of beaconryref.WaitCheck, beaconrykeep.waited.
-/
import Derived.Test.YtilnbebklchikaaWme
namespace Go.Proofs.Ytilnbebklchikaa
open Go.RowKit Go.Maps
set_option linter.unusedVariables false

set_option maxHeartbeats 400000 in
theorem everybody_any (n : Nat) (w : World) (hn : n ≤ 6) : Calls Try.prog 26 #[.int .i64 (n : Int)] w fun e w' => e = .returned (.int .u32 ((2 ^ n - 1 : Nat) : Int)) ∧ w = w' := by
  have hnI : (n : Int) ≤ 6 := by omega
  have hv := Lib.hid (all_val n hn)
  go_enter Try.func26, Try.ntmps26
  go_wp2_with fail
  go_ret
  exact ⟨by rw [← hv.out]; rfl, rfl⟩

def farV (b : Nat) : Value := .func (.func 25) #[] #[.pointer (some ⟨b, 0, none⟩)]
set_option maxHeartbeats 400000 in
theorem farcl_any (n b x cap : Nat) (A : Option Addr) (w : World) (hn : n ≤ 6) (hx : x < 4294967296) (hR : Row w b 22 [.slice A n cap]) : Calls Try.prog 25 #[.int .u32 (x : Int), .pointer (some ⟨b, 0, none⟩)] w fun e w' => e = .returned (.bool (farW n x)) ∧ w = w' := by
  have c0 := hR.cell (i := 0) (by simp)
  simp only [List.getElem_cons_zero] at c0
  have hv := Lib.hid (far_iff n x hn hx)
  have he := Lib.hid (everybody_any n w hn)
  clear hR
  generalize farW n x = C at *
  generalize 2 ^ n - 1 = y at *
  go_enter Try.func25, Try.ntmps25
  go_wp2_with fail
  refine he.out.mono ?_
  rintro e w1 ⟨rfl, rfl⟩
  go_wp2_with fail
  go_ret
  exact ⟨by rw [← hv.out]; rfl, rfl⟩

set_option maxHeartbeats 1600000 in
theorem indexFuncW_any (b cap cap' : Nat) (w : World) (A : Option Addr) (l : List Nat) (hn : l.length ≤ 6) (hR : Row w b 22 [.slice A l.length cap']) (hq : Wds w w.heap.size A l) (hF : WFits l) :
    Calls Try.prog 29 #[.slice A l.length cap, farV b] w fun e w' => ∃ r, e = .returned (.int .i64 r) ∧ (0 ≤ r ↔ farIn l) ∧ w = w' := by
  have hcl : Hid (∀ x : Nat, x < 4294967296 → Calls Try.prog 25 #[.int .u32 (x : Int), .pointer (some ⟨b, 0, none⟩)] w fun e w' => e = .returned (.bool (farW l.length x)) ∧ w = w') := fun x hx => farcl_any l.length b x cap' A w hn hx hR
  have hfar : Hid (farIn l ↔ ∃ i, i < l.length ∧ farW l.length (wat l i) = true) := Iff.rfl
  have hqH := Lib.hid hq
  generalize farIn l = FI at *
  generalize farW l.length = f at *
  clear hR hq
  unfold farV
  go_enter Try.func29, Try.ntmps29
  go_wp2_with fail
  go_loop [8] (fun t => ∃ j : Nat, j ≤ l.length ∧ t = .int .i64 j ∧ Hid (∀ a, a < j → f (wat l a) = false)) (fun t => l.length - (intOf t).toNat)
  case atStart => exact ⟨0, Nat.zero_le _, rfl, fun _ h => absurd h (Nat.not_lt_zero _)⟩
  case round =>
    obtain ⟨j, hj, rfl, hr⟩ := hrel
    by_cases hlt : j < l.length
    · obtain ⟨b2, off, rfl, hb, hc⟩ := hqH.out (by omega)
      have c0 := hc j hlt
      clear hc
      have hcc := Lib.hid (hcl.out (wat l j) (hF j))
      obtain ⟨R, hR⟩ : ∃ R, Hid (f (wat l j) = R) := ⟨f (wat l j), (rfl : f (wat l j) = f (wat l j))⟩
      rw [hR.out] at hcc
      have hn2 : Hid (R = false → ∀ a, a < j + 1 → f (wat l a) = false) := fun e0 a h => by
        by_cases e : a = j
        · subst e; exact hR.out.trans e0
        · exact hr.out a (by omega)
      have hn1 : Hid (R = true → FI) := fun e0 => hfar.out.2 ⟨j, hlt, hR.out.trans e0⟩
      generalize wat l j = x at *
      have hjI : (j : Int) < (l.length : Int) := by omega
      cases R with
      | true =>
        have hfi := Lib.hid (hn1.out rfl)
        clear hn2 hn1
        go_wp2_with fail
        refine hcc.out.mono ?_
        rintro e w3 ⟨rfl, rfl⟩
        go_wp2_with fail
        go_ret
        exact ⟨j, rfl, ⟨fun _ => hfi.out, fun _ => by omega⟩, rfl⟩
      | false =>
        have hn3 := Lib.hid (hn2.out rfl)
        clear hn2 hn1
        go_wp2_with fail
        refine hcc.out.mono ?_
        rintro e w3 ⟨rfl, rfl⟩
        go_wp2_with fail
        go_round
        case rel => exact ⟨j + 1, by omega, by go_num, hn3⟩
        case measure => simp [intOf]; omega
    · have hjl : j = l.length := by omega
      subst hjl
      go_wp2_with fail
      go_ret
      exact ⟨-1, rfl, ⟨fun h => absurd h (by omega), fun hfi => by
        obtain ⟨a, ha, e⟩ := hfar.out.1 hfi
        rw [hr.out a ha] at e
        cases e⟩, rfl⟩
set_option maxHeartbeats 400000 in
theorem containsFuncW_any (b cap cap' : Nat) (w : World) (A : Option Addr) (l : List Nat) (hn : l.length ≤ 6) (hR : Row w b 22 [.slice A l.length cap']) (hq : Wds w w.heap.size A l) (hF : WFits l) (C : Bool) (hC : C = true ↔ farIn l) :
    Calls Try.prog 27 #[.slice A l.length cap, farV b] w fun e w' => e = .returned (.bool C) ∧ w = w' := by
  have hc := Lib.hid (indexFuncW_any b cap cap' w A l hn hR hq hF)
  have hCH := Lib.hid hC
  clear hR hq hC
  unfold farV at hc
  unfold farV
  go_enter Try.func27, Try.ntmps27
  go_wp2_with fail
  refine hc.out.mono ?_
  rintro e w1 ⟨k, rfl, hk, rfl⟩
  have hkC : Hid (C = decide (0 ≤ k)) := by
    unfold Hid
    rw [Bool.eq_iff_iff, hCH.out, ← hk]
    simp
  clear hk hCH
  go_wp2_with fail
  go_ret
  exact ⟨by rw [hkC.out]; rfl, rfl⟩

set_option maxHeartbeats 800000 in
theorem check_any (cap : Nat) (w : World) (A : Option Addr) (l : List Nat) (hq : Wds w w.heap.size A l) (hF : WFits l) (hl : l.length ≤ maxLen) :
    Calls Try.prog 20 #[.slice A l.length cap] w fun e w' => e = .returned (.int .i64 (waitCode l)) ∧ Below w.heap.size w w' := by
  have hB1 := (Below.refl w.heap.size w).alloc (Nat.le_refl _) (.cells #[.slice A l.length cap] 22)
  by_cases h1 : l.length < 1
  · have hx := Lib.hid (waitCode_large (.inl h1))
    generalize waitCode l = x at *
    obtain rfl := hx.out
    have h1I : (l.length : Int) < 1 := by omega
    clear hq
    go_enter Try.func20, Try.ntmps20
    go_wp2_with fail
    go_ret
    exact ⟨rfl, hB1⟩
  · by_cases h6 : 6 < l.length
    · have hx := Lib.hid (waitCode_large (.inr h6))
      generalize waitCode l = x at *
      obtain rfl := hx.out
      have h1I : ¬ (l.length : Int) < 1 := by omega
      have h6I : (6 : Int) < (l.length : Int) := by omega
      clear hq
      go_enter Try.func20, Try.ntmps20
      go_wp2_with fail
      go_ret
      exact ⟨rfl, hB1⟩
    · have h1I : ¬ (l.length : Int) < 1 := by omega
      have h6I : ¬ (6 : Int) < (l.length : Int) := by omega
      have hsz : (w.alloc (.cells #[.slice A l.length cap] 22)).heap.size = w.heap.size + 1 := by simp
      have hRow : Row (w.alloc (.cells #[.slice A l.length cap] 22)) w.heap.size 22 [.slice A l.length cap] := Row.made w _ [_]
      by_cases hf : farIn l
      · have hx := Lib.hid (waitCode_range (by omega) hf)
        have hc := Lib.hid (containsFuncW_any w.heap.size cap cap _ A l (by omega) hRow ((hq.below hB1).more (by omega)) hF true ⟨fun _ => hf, fun _ => rfl⟩)
        generalize waitCode l = x at *
        obtain rfl := hx.out
        unfold farV at hc
        clear hq hRow hf hsz
        go_enter Try.func20, Try.ntmps20
        go_wp2_with fail
        refine hc.out.mono ?_
        rintro e w1 ⟨rfl, rfl⟩
        go_wp2_with fail
        go_ret
        exact ⟨rfl, hB1⟩
      · have hx := Lib.hid (waitCode_ok (by omega) hf)
        have hc := Lib.hid (containsFuncW_any w.heap.size cap cap _ A l (by omega) hRow ((hq.below hB1).more (by omega)) hF false ⟨(nomatch ·), fun h => absurd h hf⟩)
        generalize waitCode l = x at *
        obtain rfl := hx.out
        unfold farV at hc
        clear hq hRow hf hsz
        go_enter Try.func20, Try.ntmps20
        go_wp2_with fail
        refine hc.out.mono ?_
        rintro e w1 ⟨rfl, rfl⟩
        go_wp2_with fail
        go_ret
        exact ⟨rfl, hB1⟩

set_option maxHeartbeats 800000 in
theorem waitCheck_any (cap : Nat) (w : World) (A : Option Addr) (l : List Nat) (hq : Wds w w.heap.size A l) (hF : WFits l) (hl : l.length ≤ maxLen) :
    Calls Try.prog 10 #[.slice A l.length cap] w fun e w' => e = .returned (.int .i64 (waitCode l)) ∧ w = w' := by
  by_cases h1 : l.length < 1
  · have hx := Lib.hid (waitCode_large (.inl h1))
    generalize waitCode l = x at *
    obtain rfl := hx.out
    have h1I : (l.length : Int) < 1 := by omega
    clear hq
    go_enter Try.func10, Try.ntmps10
    go_wp2_with fail
    go_ret
    exact ⟨rfl, rfl⟩
  · by_cases h6 : 6 < l.length
    · have hx := Lib.hid (waitCode_large (.inr h6))
      generalize waitCode l = x at *
      obtain rfl := hx.out
      have h1I : ¬ (l.length : Int) < 1 := by omega
      have h6I : (6 : Int) < (l.length : Int) := by omega
      clear hq
      go_enter Try.func10, Try.ntmps10
      go_wp2_with fail
      go_ret
      exact ⟨rfl, rfl⟩
    · have h1I : ¬ (l.length : Int) < 1 := by omega
      have h6I : ¬ (6 : Int) < (l.length : Int) := by omega
      have hno : ¬ (l.length < 1 ∨ 6 < l.length) := by omega
      have hqH := Lib.hid hq
      obtain ⟨N, hN⟩ : ∃ N, N = l.length := ⟨_, rfl⟩
      have hyes : Hid (∀ j, j < l.length → 2 ^ l.length ≤ wat l j → waitCode l = 4) := fun j hj h => waitCode_range hno ⟨j, hj, by unfold farW; rw [decide_eq_true_iff]; exact h⟩
      have hall : Hid ((∀ j, j < l.length → ¬ 2 ^ l.length ≤ wat l j) → waitCode l = 0) := fun h => waitCode_ok hno fun ⟨j, hj, hf⟩ => by
        unfold farW at hf
        rw [decide_eq_true_iff] at hf
        exact h j hj hf
      have hp := Lib.hid (pow_mod l.length (by omega))
      have hpl := pow_lt l.length (by omega)
      generalize waitCode l = x at *
      clear hq hno
      go_enter Try.func10, Try.ntmps10
      go_wp2_with fail
      go_loop [15] (fun t => ∃ j : Nat, j ≤ l.length ∧ t = .int .i64 j ∧ Hid (∀ a, a < j → ¬ 2 ^ l.length ≤ wat l a)) (fun t => l.length - (intOf t).toNat)
      case atStart => exact ⟨0, Nat.zero_le _, rfl, fun _ h => absurd h (Nat.not_lt_zero _)⟩
      case round =>
        obtain ⟨j, hj, rfl, hr⟩ := hrel
        by_cases hlt : j < l.length
        · obtain ⟨b2, off, rfl, hb, hc⟩ := hqH.out (by omega)
          have c0 := hc j hlt
          clear hc
          have hjI : (j : Int) < (l.length : Int) := by omega
          have hfj := hF j
          by_cases hf : 2 ^ l.length ≤ wat l j
          · have hx := Lib.hid (hyes.out j hlt hf)
            have hb1 : ((2 : Int) ^ l.length % 4294967296 ≤ (wat l j : Int)) := by rw [hp.out]; omega
            generalize wat l j = y at *
            obtain rfl := hx.out
            go_wp2_with fail
            go_ret
            exact ⟨rfl, rfl⟩
          · have hn3 : Hid (∀ a, a < j + 1 → ¬ 2 ^ l.length ≤ wat l a) := fun a h => by
              by_cases e : a = j
              · subst e; exact hf
              · exact hr.out a (by omega)
            have hb1 : ¬ ((2 : Int) ^ l.length % 4294967296 ≤ (wat l j : Int)) := by rw [hp.out]; omega
            generalize wat l j = y at *
            go_wp2_with fail
            go_round
            case rel => exact ⟨j + 1, by omega, by go_num, hn3⟩
            case measure => simp [intOf]; omega
        · have hjl : j = l.length := by omega
          subst hjl
          have hx := Lib.hid (hall.out hr.out)
          obtain rfl := hx.out
          go_wp2_with fail
          go_ret
          exact ⟨rfl, rfl⟩
set_option maxHeartbeats 400000 in
theorem waited_any (cap : Nat) (w : World) (A : Option Addr) (l : List Nat) (hq : Wds w w.heap.size A l) (hF : WFits l) (hl : l.length ≤ maxLen) (C : Bool) (hC : C = true ↔ WV l) :
    Calls Try.prog 18 #[.slice A l.length cap] w fun e w' => e = .returned (.bool C) ∧ w = w' := by
  have hc := Lib.hid (waitCheck_any cap w A l hq hF hl)
  have hx : C = (waitCode l == 0) := by rw [Bool.eq_iff_iff, hC, beq_iff_eq, waitCode_iff]
  subst hx
  generalize waitCode l = x at *
  clear hq hC
  go_enter Try.func18, Try.ntmps18
  go_wp2_with fail
  refine hc.out.mono ?_
  rintro e w1 ⟨rfl, rfl⟩
  go_wp2_with fail
  go_ret
  exact ⟨rfl, rfl⟩

#print axioms check_any
#print axioms waitCheck_any
#print axioms waited_any
end Go.Proofs.Ytilnbebklchikaa
