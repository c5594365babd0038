/-
  The contracts of slices.IndexFunc and slices.ContainsFunc at []uint32, with each of package quorum's closures. (Written by gen/uix.py.)
-/
import Derived.Test.YtgamppdfjbcbeaaUsm
namespace Go.Proofs.Ytgamppdfjbcbeaa
open Go.RowKit Go.Maps
set_option linter.unusedVariables false

def Idx (f : Nat → Bool) (l : List Nat) (r : Int) : Prop := (r = -1 ∧ ∀ a, a < l.length → f (wat l a) = false) ∨ (∃ k : Nat, r = (k : Int) ∧ k < l.length ∧ f (wat l k) = true ∧ ∀ a, a < k → f (wat l a) = false)
theorem idx_some {f : Nat → Bool} {l : List Nat} {r : Int} (h : Idx f l r) : (∃ i, i < l.length ∧ f (wat l i) = true) ↔ 0 ≤ r := by
  rcases h with ⟨rfl, h⟩ | ⟨k, rfl, h1, h2, h3⟩
  · constructor
    · rintro ⟨i, hi, e⟩
      rw [h i hi] at e
      cases e
    · intro h; omega
  · exact ⟨fun _ => by omega, fun _ => ⟨k, h1, h2⟩⟩
def IdxRes (f : Nat → Bool) (l : List Nat) (w : World) (e : Ending) (w' : World) : Prop := ∃ r : Int, e = .returned (.int .i64 r) ∧ Idx f l r ∧ w = w'

def fnK (b : Nat) : Value := .func (.func 38) #[] #[.pointer (some ⟨b, 0, none⟩)]
set_option maxHeartbeats 1600000 in
theorem indexK_any (b cap : Nat) (w : World) (A : Option Addr) (l : List Nat) (f : Nat → Bool) (hcl : ∀ x : Nat, x < 4294967296 → Calls Try.prog 38 #[.int .u32 (x : Int), .pointer (some ⟨b, 0, none⟩)] w fun e w' => e = .returned (.bool (f x)) ∧ w = w') (hq : Wds w w.heap.size A l) (hF : WFits l) (hl : l.length ≤ 1000) :
    Calls Try.prog 48 #[.slice A l.length cap, fnK b] w (IdxRes f l w) := by
  have hclH := Lib.hid hcl
  have hqH := Lib.hid hq
  clear hq hcl
  unfold fnK
  go_enter Try.func48, Try.ntmps48
  go_wp2_with fail
  go_loop [8] (fun t => ∃ j : Nat, j ≤ l.length ∧ t = .int .i64 j ∧ Hid (∀ a, a < j → f (wat l a) = false)) (fun t => l.length - (intOf t).toNat)
  case atStart => exact ⟨0, Nat.zero_le _, rfl, fun _ h => absurd h (Nat.not_lt_zero _)⟩
  case round =>
    obtain ⟨j, hj, rfl, hr⟩ := hrel
    by_cases hlt : j < l.length
    · obtain ⟨b2, off, rfl, hb, hc⟩ := hqH.out (by omega)
      have c0 := hc j hlt
      clear hc
      have hcc := Lib.hid (hclH.out (wat l j) (hF j))
      obtain ⟨R, hR⟩ : ∃ R, Hid (f (wat l j) = R) := ⟨f (wat l j), (rfl : f (wat l j) = f (wat l j))⟩
      rw [hR.out] at hcc
      have hn2 : Hid (R = false → ∀ a, a < j + 1 → f (wat l a) = false) := fun e0 a h => by
        by_cases e : a = j
        · subst e; exact hR.out.trans e0
        · exact hr.out a (by omega)
      generalize hx : wat l j = x at c0 hcc
      have hxH := Lib.hid hx
      clear hx
      have hjI : (j : Int) < (l.length : Int) := by omega
      cases R with
      | true =>
        clear hn2
        go_wp2_with fail
        refine hcc.out.mono ?_
        rintro e w3 ⟨rfl, rfl⟩
        go_wp2_with fail
        go_ret
        exact ⟨j, rfl, .inr ⟨j, rfl, hlt, hR.out, hr.out⟩, rfl⟩
      | false =>
        have hn3 := Lib.hid (hn2.out rfl)
        clear hn2
        go_wp2_with fail
        refine hcc.out.mono ?_
        rintro e w3 ⟨rfl, rfl⟩
        go_wp2_with fail
        go_round
        case rel => exact ⟨j + 1, by omega, by go_num, hn3⟩
        case measure => simp [intOf]; omega
    · have hjl : j = l.length := by omega
      subst hjl
      go_wp2_with fail
      go_ret
      exact ⟨-1, rfl, .inl ⟨rfl, hr.out⟩, rfl⟩
set_option maxHeartbeats 400000 in
theorem containsK_any (b cap : Nat) (w : World) (A : Option Addr) (l : List Nat) (f : Nat → Bool) (hcl : ∀ x : Nat, x < 4294967296 → Calls Try.prog 38 #[.int .u32 (x : Int), .pointer (some ⟨b, 0, none⟩)] w fun e w' => e = .returned (.bool (f x)) ∧ w = w') (hq : Wds w w.heap.size A l) (hF : WFits l) (hl : l.length ≤ 1000) (C : Bool) (hC : C = true ↔ ∃ i, i < l.length ∧ f (wat l i) = true) :
    Calls Try.prog 39 #[.slice A l.length cap, fnK b] w fun e w' => e = .returned (.bool C) ∧ w = w' := by
  have hc := Lib.hid (indexK_any b cap w A l f hcl hq hF hl)
  have hCH := Lib.hid hC
  clear hq hC hcl
  unfold fnK at hc
  unfold fnK
  go_enter Try.func39, Try.ntmps39
  go_wp2_with fail
  refine hc.out.mono ?_
  rintro e w1 ⟨k, rfl, hk, rfl⟩
  have hkC : Hid (C = decide (0 ≤ k)) := by
    unfold Hid
    rw [Bool.eq_iff_iff, hCH.out, decide_eq_true_iff]
    exact idx_some hk
  clear hk hCH
  go_wp2_with fail
  go_ret
  exact ⟨by rw [hkC.out]; rfl, rfl⟩

def fnM (b : Nat) : Value := .func (.func 40) #[] #[.pointer (some ⟨b, 0, none⟩)]
set_option maxHeartbeats 1600000 in
theorem indexM_any (b cap : Nat) (w : World) (A : Option Addr) (l : List Nat) (f : Nat → Bool) (hcl : ∀ x : Nat, x < 4294967296 → Calls Try.prog 40 #[.int .u32 (x : Int), .pointer (some ⟨b, 0, none⟩)] w fun e w' => e = .returned (.bool (f x)) ∧ w = w') (hq : Wds w w.heap.size A l) (hF : WFits l) (hl : l.length ≤ 1000) :
    Calls Try.prog 48 #[.slice A l.length cap, fnM b] w (IdxRes f l w) := by
  have hclH := Lib.hid hcl
  have hqH := Lib.hid hq
  clear hq hcl
  unfold fnM
  go_enter Try.func48, Try.ntmps48
  go_wp2_with fail
  go_loop [8] (fun t => ∃ j : Nat, j ≤ l.length ∧ t = .int .i64 j ∧ Hid (∀ a, a < j → f (wat l a) = false)) (fun t => l.length - (intOf t).toNat)
  case atStart => exact ⟨0, Nat.zero_le _, rfl, fun _ h => absurd h (Nat.not_lt_zero _)⟩
  case round =>
    obtain ⟨j, hj, rfl, hr⟩ := hrel
    by_cases hlt : j < l.length
    · obtain ⟨b2, off, rfl, hb, hc⟩ := hqH.out (by omega)
      have c0 := hc j hlt
      clear hc
      have hcc := Lib.hid (hclH.out (wat l j) (hF j))
      obtain ⟨R, hR⟩ : ∃ R, Hid (f (wat l j) = R) := ⟨f (wat l j), (rfl : f (wat l j) = f (wat l j))⟩
      rw [hR.out] at hcc
      have hn2 : Hid (R = false → ∀ a, a < j + 1 → f (wat l a) = false) := fun e0 a h => by
        by_cases e : a = j
        · subst e; exact hR.out.trans e0
        · exact hr.out a (by omega)
      generalize hx : wat l j = x at c0 hcc
      have hxH := Lib.hid hx
      clear hx
      have hjI : (j : Int) < (l.length : Int) := by omega
      cases R with
      | true =>
        clear hn2
        go_wp2_with fail
        refine hcc.out.mono ?_
        rintro e w3 ⟨rfl, rfl⟩
        go_wp2_with fail
        go_ret
        exact ⟨j, rfl, .inr ⟨j, rfl, hlt, hR.out, hr.out⟩, rfl⟩
      | false =>
        have hn3 := Lib.hid (hn2.out rfl)
        clear hn2
        go_wp2_with fail
        refine hcc.out.mono ?_
        rintro e w3 ⟨rfl, rfl⟩
        go_wp2_with fail
        go_round
        case rel => exact ⟨j + 1, by omega, by go_num, hn3⟩
        case measure => simp [intOf]; omega
    · have hjl : j = l.length := by omega
      subst hjl
      go_wp2_with fail
      go_ret
      exact ⟨-1, rfl, .inl ⟨rfl, hr.out⟩, rfl⟩
set_option maxHeartbeats 400000 in
theorem containsM_any (b cap : Nat) (w : World) (A : Option Addr) (l : List Nat) (f : Nat → Bool) (hcl : ∀ x : Nat, x < 4294967296 → Calls Try.prog 40 #[.int .u32 (x : Int), .pointer (some ⟨b, 0, none⟩)] w fun e w' => e = .returned (.bool (f x)) ∧ w = w') (hq : Wds w w.heap.size A l) (hF : WFits l) (hl : l.length ≤ 1000) (C : Bool) (hC : C = true ↔ ∃ i, i < l.length ∧ f (wat l i) = true) :
    Calls Try.prog 39 #[.slice A l.length cap, fnM b] w fun e w' => e = .returned (.bool C) ∧ w = w' := by
  have hc := Lib.hid (indexM_any b cap w A l f hcl hq hF hl)
  have hCH := Lib.hid hC
  clear hq hC hcl
  unfold fnM at hc
  unfold fnM
  go_enter Try.func39, Try.ntmps39
  go_wp2_with fail
  refine hc.out.mono ?_
  rintro e w1 ⟨k, rfl, hk, rfl⟩
  have hkC : Hid (C = decide (0 ≤ k)) := by
    unfold Hid
    rw [Bool.eq_iff_iff, hCH.out, decide_eq_true_iff]
    exact idx_some hk
  clear hk hCH
  go_wp2_with fail
  go_ret
  exact ⟨by rw [hkC.out]; rfl, rfl⟩

def fnI (b : Nat) : Value := .func (.func 43) #[] #[.pointer (some ⟨b, 0, none⟩)]
set_option maxHeartbeats 1600000 in
theorem indexI_any (b cap : Nat) (w : World) (A : Option Addr) (l : List Nat) (f : Nat → Bool) (hcl : ∀ x : Nat, x < 4294967296 → Calls Try.prog 43 #[.int .u32 (x : Int), .pointer (some ⟨b, 0, none⟩)] w fun e w' => e = .returned (.bool (f x)) ∧ w = w') (hq : Wds w w.heap.size A l) (hF : WFits l) (hl : l.length ≤ 1000) :
    Calls Try.prog 48 #[.slice A l.length cap, fnI b] w (IdxRes f l w) := by
  have hclH := Lib.hid hcl
  have hqH := Lib.hid hq
  clear hq hcl
  unfold fnI
  go_enter Try.func48, Try.ntmps48
  go_wp2_with fail
  go_loop [8] (fun t => ∃ j : Nat, j ≤ l.length ∧ t = .int .i64 j ∧ Hid (∀ a, a < j → f (wat l a) = false)) (fun t => l.length - (intOf t).toNat)
  case atStart => exact ⟨0, Nat.zero_le _, rfl, fun _ h => absurd h (Nat.not_lt_zero _)⟩
  case round =>
    obtain ⟨j, hj, rfl, hr⟩ := hrel
    by_cases hlt : j < l.length
    · obtain ⟨b2, off, rfl, hb, hc⟩ := hqH.out (by omega)
      have c0 := hc j hlt
      clear hc
      have hcc := Lib.hid (hclH.out (wat l j) (hF j))
      obtain ⟨R, hR⟩ : ∃ R, Hid (f (wat l j) = R) := ⟨f (wat l j), (rfl : f (wat l j) = f (wat l j))⟩
      rw [hR.out] at hcc
      have hn2 : Hid (R = false → ∀ a, a < j + 1 → f (wat l a) = false) := fun e0 a h => by
        by_cases e : a = j
        · subst e; exact hR.out.trans e0
        · exact hr.out a (by omega)
      generalize hx : wat l j = x at c0 hcc
      have hxH := Lib.hid hx
      clear hx
      have hjI : (j : Int) < (l.length : Int) := by omega
      cases R with
      | true =>
        clear hn2
        go_wp2_with fail
        refine hcc.out.mono ?_
        rintro e w3 ⟨rfl, rfl⟩
        go_wp2_with fail
        go_ret
        exact ⟨j, rfl, .inr ⟨j, rfl, hlt, hR.out, hr.out⟩, rfl⟩
      | false =>
        have hn3 := Lib.hid (hn2.out rfl)
        clear hn2
        go_wp2_with fail
        refine hcc.out.mono ?_
        rintro e w3 ⟨rfl, rfl⟩
        go_wp2_with fail
        go_round
        case rel => exact ⟨j + 1, by omega, by go_num, hn3⟩
        case measure => simp [intOf]; omega
    · have hjl : j = l.length := by omega
      subst hjl
      go_wp2_with fail
      go_ret
      exact ⟨-1, rfl, .inl ⟨rfl, hr.out⟩, rfl⟩
set_option maxHeartbeats 400000 in
theorem containsI_any (b cap : Nat) (w : World) (A : Option Addr) (l : List Nat) (f : Nat → Bool) (hcl : ∀ x : Nat, x < 4294967296 → Calls Try.prog 43 #[.int .u32 (x : Int), .pointer (some ⟨b, 0, none⟩)] w fun e w' => e = .returned (.bool (f x)) ∧ w = w') (hq : Wds w w.heap.size A l) (hF : WFits l) (hl : l.length ≤ 1000) (C : Bool) (hC : C = true ↔ ∃ i, i < l.length ∧ f (wat l i) = true) :
    Calls Try.prog 39 #[.slice A l.length cap, fnI b] w fun e w' => e = .returned (.bool C) ∧ w = w' := by
  have hc := Lib.hid (indexI_any b cap w A l f hcl hq hF hl)
  have hCH := Lib.hid hC
  clear hq hC hcl
  unfold fnI at hc
  unfold fnI
  go_enter Try.func39, Try.ntmps39
  go_wp2_with fail
  refine hc.out.mono ?_
  rintro e w1 ⟨k, rfl, hk, rfl⟩
  have hkC : Hid (C = decide (0 ≤ k)) := by
    unfold Hid
    rw [Bool.eq_iff_iff, hCH.out, decide_eq_true_iff]
    exact idx_some hk
  clear hk hCH
  go_wp2_with fail
  go_ret
  exact ⟨by rw [hkC.out]; rfl, rfl⟩

def fnD (b : Nat) : Value := .func (.func 45) #[] #[.pointer (some ⟨b, 0, none⟩)]
set_option maxHeartbeats 1600000 in
theorem indexD_any (b cap : Nat) (w : World) (A : Option Addr) (l : List Nat) (f : Nat → Bool) (hcl : ∀ x : Nat, x < 4294967296 → Calls Try.prog 45 #[.int .u32 (x : Int), .pointer (some ⟨b, 0, none⟩)] w fun e w' => e = .returned (.bool (f x)) ∧ w = w') (hq : Wds w w.heap.size A l) (hF : WFits l) (hl : l.length ≤ 1000) :
    Calls Try.prog 48 #[.slice A l.length cap, fnD b] w (IdxRes f l w) := by
  have hclH := Lib.hid hcl
  have hqH := Lib.hid hq
  clear hq hcl
  unfold fnD
  go_enter Try.func48, Try.ntmps48
  go_wp2_with fail
  go_loop [8] (fun t => ∃ j : Nat, j ≤ l.length ∧ t = .int .i64 j ∧ Hid (∀ a, a < j → f (wat l a) = false)) (fun t => l.length - (intOf t).toNat)
  case atStart => exact ⟨0, Nat.zero_le _, rfl, fun _ h => absurd h (Nat.not_lt_zero _)⟩
  case round =>
    obtain ⟨j, hj, rfl, hr⟩ := hrel
    by_cases hlt : j < l.length
    · obtain ⟨b2, off, rfl, hb, hc⟩ := hqH.out (by omega)
      have c0 := hc j hlt
      clear hc
      have hcc := Lib.hid (hclH.out (wat l j) (hF j))
      obtain ⟨R, hR⟩ : ∃ R, Hid (f (wat l j) = R) := ⟨f (wat l j), (rfl : f (wat l j) = f (wat l j))⟩
      rw [hR.out] at hcc
      have hn2 : Hid (R = false → ∀ a, a < j + 1 → f (wat l a) = false) := fun e0 a h => by
        by_cases e : a = j
        · subst e; exact hR.out.trans e0
        · exact hr.out a (by omega)
      generalize hx : wat l j = x at c0 hcc
      have hxH := Lib.hid hx
      clear hx
      have hjI : (j : Int) < (l.length : Int) := by omega
      cases R with
      | true =>
        clear hn2
        go_wp2_with fail
        refine hcc.out.mono ?_
        rintro e w3 ⟨rfl, rfl⟩
        go_wp2_with fail
        go_ret
        exact ⟨j, rfl, .inr ⟨j, rfl, hlt, hR.out, hr.out⟩, rfl⟩
      | false =>
        have hn3 := Lib.hid (hn2.out rfl)
        clear hn2
        go_wp2_with fail
        refine hcc.out.mono ?_
        rintro e w3 ⟨rfl, rfl⟩
        go_wp2_with fail
        go_round
        case rel => exact ⟨j + 1, by omega, by go_num, hn3⟩
        case measure => simp [intOf]; omega
    · have hjl : j = l.length := by omega
      subst hjl
      go_wp2_with fail
      go_ret
      exact ⟨-1, rfl, .inl ⟨rfl, hr.out⟩, rfl⟩
set_option maxHeartbeats 400000 in
theorem containsD_any (b cap : Nat) (w : World) (A : Option Addr) (l : List Nat) (f : Nat → Bool) (hcl : ∀ x : Nat, x < 4294967296 → Calls Try.prog 45 #[.int .u32 (x : Int), .pointer (some ⟨b, 0, none⟩)] w fun e w' => e = .returned (.bool (f x)) ∧ w = w') (hq : Wds w w.heap.size A l) (hF : WFits l) (hl : l.length ≤ 1000) (C : Bool) (hC : C = true ↔ ∃ i, i < l.length ∧ f (wat l i) = true) :
    Calls Try.prog 39 #[.slice A l.length cap, fnD b] w fun e w' => e = .returned (.bool C) ∧ w = w' := by
  have hc := Lib.hid (indexD_any b cap w A l f hcl hq hF hl)
  have hCH := Lib.hid hC
  clear hq hC hcl
  unfold fnD at hc
  unfold fnD
  go_enter Try.func39, Try.ntmps39
  go_wp2_with fail
  refine hc.out.mono ?_
  rintro e w1 ⟨k, rfl, hk, rfl⟩
  have hkC : Hid (C = decide (0 ≤ k)) := by
    unfold Hid
    rw [Bool.eq_iff_iff, hCH.out, decide_eq_true_iff]
    exact idx_some hk
  clear hk hCH
  go_wp2_with fail
  go_ret
  exact ⟨by rw [hkC.out]; rfl, rfl⟩
#print axioms containsK_any
#print axioms containsM_any
#print axioms containsI_any
#print axioms containsD_any
end Go.Proofs.Ytgamppdfjbcbeaa
