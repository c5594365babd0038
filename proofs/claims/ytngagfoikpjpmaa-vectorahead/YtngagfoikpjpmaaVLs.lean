/-
  The contracts of vector.Less and beaconryref.Less.
-/
import Derived.Test.YtngagfoikpjpmaaVCk
import Derived.BigQuiet
import Derived.Deep.QuietTactic
namespace Go.Proofs.Ytngagfoikpjpmaa
open Go.RowKit Go.Maps

theorem vless_no (A1 A2 : Option Addr) (c1 c2 : Nat) (a b : List Int) (w : World) (h1 : Nums w w.heap.size A1 a) (h2 : Nums w w.heap.size A2 b) (ha : a.length ≤ 17592186044416) (hb : b.length ≤ 17592186044416) (h0 : ¬ vcode a b = 0) :
    Calls Try.prog 14 #[.slice A1 a.length c1, .slice A2 b.length c2] w fun e w' => e = .returned (.tuple #[.bool false, .int .i64 (vcode a b)]) ∧ Below w.heap.size w w' := by
  have hb0 : (vcode a b != 0) = true := by simp [h0]
  have h0H := Lib.hid h0
  clear h0
  go_enter Try.func14, Try.ntmps14
  go_wp2_with fail
  refine (vcheck_any A1 A2 c1 c2 a b _ h1 h2 ha hb).mono ?_
  rintro e w1 ⟨rfl, rfl⟩
  go_wp2_with fail
  go_ret2
  exact ⟨rfl, Below.refl _ _⟩

/-- While the numbers are held against each other: none was greater; one was less if less says so. -/
def LessRel (a b : List Int) (w : World) (k : Nat) (less : Bool) (wr : World) : Prop := (∀ i, i < k → vat a i ≤ vat b i) ∧ (less = true ↔ ∃ i, i < k ∧ vat a i < vat b i) ∧ Below w.heap.size w wr

theorem LessRel.step {a b : List Int} {w wr wr' : World} {k : Nat} {less : Bool} (h : LessRel a b w k less wr) (hle : vat a k ≤ vat b k) (hB : Below w.heap.size w wr') {less' : Bool} (hl : less' = true ↔ (less = true ∨ vat a k < vat b k)) : LessRel a b w (k + 1) less' wr' := by
  obtain ⟨h1, h2, _⟩ := h
  refine ⟨fun i hi => ?_, ?_, hB⟩
  · by_cases e : i = k
    · rw [e]; exact hle
    · exact h1 i (by omega)
  · rw [hl, h2]
    constructor
    · rintro (⟨i, h3, h4⟩ | h3)
      · exact ⟨i, by omega, h4⟩
      · exact ⟨k, by omega, h3⟩
    · rintro ⟨i, h3, h4⟩
      by_cases e : i = k
      · rw [e] at h4; exact .inr h4
      · exact .inl ⟨i, by omega, h4⟩
theorem LessRel.done {a b : List Int} {w wr : World} {less : Bool} (h : LessRel a b w a.length less wr) : less = true ↔ LessV a b :=
  ⟨fun h1 => ⟨h.1, h.2.1.1 h1⟩, fun h1 => h.2.1.2 h1.2⟩

set_option maxHeartbeats 1000000 in
theorem vless_ok (A1 A2 : Option Addr) (c1 c2 : Nat) (a b : List Int) (w : World) (h1 : Nums w w.heap.size A1 a) (h2 : Nums w w.heap.size A2 b) (h0 : VGood a b) (C : Bool) (hC : Hid (C = true ↔ LessV a b)) :
    Calls Try.prog 14 #[.slice A1 a.length c1, .slice A2 b.length c2] w fun e w' => e = .returned (.tuple #[.bool C, .int .i64 0]) ∧ Below w.heap.size w w' := by
  have hs := Lib.hid h0.same
  have hl := h0.len
  have h00 := Lib.hid ((vcode_ok a b).2 h0)
  have hbl : b.length ≤ 17592186044416 := by have := hs.out; omega
  clear h0
  go_enter Try.func14, Try.ntmps14
  go_wp2_with fail
  refine (vcheck_any A1 A2 c1 c2 a b _ h1 h2 (by omega) hbl).mono ?_
  rintro e w1 ⟨rfl, rfl⟩
  rw [h00.out, hs.out]
  go_wp2_with fail
  go_loopw [17, 7] (fun t s wr => ∃ (k : Nat) (less : Bool), k ≤ a.length ∧ t = .int .i64 k ∧ s = .bool less ∧ LessRel a b w k less wr) (fun t _ _ => a.length - (intOf t).toNat)
  case atStart => exact ⟨0, false, Nat.zero_le _, rfl, rfl, fun i hi => by omega, by simp, Below.refl _ _⟩
  case round =>
    obtain ⟨k, less, hk, rfl, rfl, hR⟩ := hrel
    have hB := hR.2.2
    by_cases hlt : k < a.length
    · obtain ⟨b1, o1, rfl, hb1, x1⟩ := nums_at (h1.below hB) hlt
      obtain ⟨b2, o2, rfl, hb2, x2⟩ := nums_at (h2.below hB) (i := k) (by have := hs.out; omega)
      have hgt : Hid (vat b k < vat a k → C = false) := fun hg => by
        rw [← Bool.not_eq_true, hC.out]
        rintro ⟨h3, _⟩
        have := h3 k hlt
        omega
      have hRH : Hid (∀ (wr' : World) (less' : Bool), vat a k ≤ vat b k → Below w.heap.size w wr' → (less' = true ↔ (less = true ∨ vat a k < vat b k)) → LessRel a b w (k + 1) less' wr') := fun _ _ h3 h4 h5 => hR.step h3 h4 h5
      clear hR
      generalize vat a k = x at *
      generalize vat b k = y at *
      by_cases d1 : y < x
      · have e1 := hgt.out d1
        subst e1
        have hd : decide (y < x) = true := by simp [d1]
        go_wp2_with fail
        go_quiet (fail)
        go_wp2_with fail
        go_ret2
        exact ⟨rfl, below_drewN hB _⟩
      have hd : decide (y < x) = false := by simp [d1]
      by_cases d2 : x < y
      · have hd2 : decide (x < y) = true := by simp [d2]
        go_wp2_with fail
        go_quiet (fail)
        go_wp2_with fail
        go_quiet (fail)
        go_wp2_with fail
        go_roundw
        case rel => exact ⟨k + 1, true, by omega, by go_num, rfl, hRH.out _ true (by omega) (below_drewN hB _) (by simp [d2])⟩
        case measure => simp [intOf]; omega
      · have hd2 : decide (x < y) = false := by simp [d2]
        go_wp2_with fail
        go_quiet (fail)
        go_wp2_with fail
        go_quiet (fail)
        go_wp2_with fail
        go_roundw
        case rel => exact ⟨k + 1, less, by omega, by go_num, rfl, hRH.out _ less (by omega) (below_drewN hB _) ⟨Or.inl, fun h => h.elim id (fun h => absurd h (by omega))⟩⟩
        case measure => simp [intOf]; omega
    · have hkl : k = a.length := by omega
      subst hkl
      have e : less = C := by rw [Bool.eq_iff_iff, hR.done, hC.out]
      subst e
      go_wp2_with fail
      go_ret2
      exact ⟨rfl, hB⟩

set_option maxHeartbeats 1000000 in
theorem rless_ok (A1 A2 : Option Addr) (c1 c2 : Nat) (a b : List Int) (w : World) (h1 : Nums w w.heap.size A1 a) (h2 : Nums w w.heap.size A2 b) (h0 : VGood a b) (C : Bool) (hC : Hid (C = true ↔ LessV a b)) :
    Calls Try.prog 16 #[.slice A1 a.length c1, .slice A2 b.length c2] w fun e w' => e = .returned (.bool C) ∧ Below w.heap.size w w' := by
  have hs := Lib.hid h0.same
  have hl := h0.len
  rw [hs.out]
  clear h0
  go_enter Try.func16, Try.ntmps16
  go_wp2_with fail
  go_loopw [6, 5] (fun t s wr => ∃ (k : Nat) (less : Bool), k ≤ a.length ∧ t = .int .i64 k ∧ s = .bool less ∧ LessRel a b w k less wr) (fun t _ _ => a.length - (intOf t).toNat)
  case atStart => exact ⟨0, false, Nat.zero_le _, rfl, rfl, fun i hi => by omega, by simp, Below.refl _ _⟩
  case round =>
    obtain ⟨k, less, hk, rfl, rfl, hR⟩ := hrel
    have hB := hR.2.2
    by_cases hlt : k < a.length
    · obtain ⟨b1, o1, rfl, hb1, x1⟩ := nums_at (h1.below hB) hlt
      obtain ⟨b2, o2, rfl, hb2, x2⟩ := nums_at (h2.below hB) (i := k) (by have := hs.out; omega)
      have hgt : Hid (vat b k < vat a k → C = false) := fun hg => by
        rw [← Bool.not_eq_true, hC.out]
        rintro ⟨h3, _⟩
        have := h3 k hlt
        omega
      have hRH : Hid (∀ (wr' : World) (less' : Bool), vat a k ≤ vat b k → Below w.heap.size w wr' → (less' = true ↔ (less = true ∨ vat a k < vat b k)) → LessRel a b w (k + 1) less' wr') := fun _ _ h3 h4 h5 => hR.step h3 h4 h5
      clear hR
      generalize vat a k = x at *
      generalize vat b k = y at *
      by_cases d1 : y < x
      · have e1 := hgt.out d1
        subst e1
        have hd : decide (y < x) = true := by simp [d1]
        go_wp2_with fail
        go_quiet (fail)
        go_wp2_with fail
        go_ret
        exact ⟨rfl, below_drewN hB _⟩
      have hd : decide (y < x) = false := by simp [d1]
      cases less with
      | true =>
        go_wp2_with fail
        go_quiet (fail)
        go_wp2_with fail
        go_quiet (fail)
        go_wp2_with fail
        go_roundw
        case rel => exact ⟨k + 1, true, by omega, by go_num, rfl, hRH.out _ true (by omega) (below_drewN hB _) (by simp)⟩
        case measure => simp [intOf]; omega
      | false =>
        by_cases d2 : x < y
        · have hd2 : decide (x < y) = true := by simp [d2]
          go_wp2_with fail
          go_quiet (fail)
          go_wp2_with fail
          go_quiet (fail)
          go_wp2_with fail
          go_roundw
          case rel => exact ⟨k + 1, true, by omega, by go_num, rfl, hRH.out _ true (by omega) (below_drewN hB _) (by simp [d2])⟩
          case measure => simp [intOf]; omega
        · have hd2 : decide (x < y) = false := by simp [d2]
          have d3 := Lib.hid d2
          go_wp2_with fail
          go_quiet (fail)
          go_wp2_with fail
          go_quiet (fail)
          go_wp2_with fail
          go_roundw
          case rel => exact ⟨k + 1, false, by omega, by go_num, rfl, hRH.out _ false (by omega) (below_drewN hB _) (by simp [d3.out])⟩
          case measure => simp [intOf]; omega
    · have hkl : k = a.length := by omega
      subst hkl
      have e : less = C := by rw [Bool.eq_iff_iff, hR.done, hC.out]
      subst e
      go_wp2_with fail
      go_ret
      exact ⟨rfl, hB⟩

#print axioms vless_ok
#print axioms rless_ok
end Go.Proofs.Ytngagfoikpjpmaa
