/-
  The contract of vector.check.
-/
import Derived.Test.YtngagfoikpjpmaaRows
import Derived.Test.YtngagfoikpjpmaaVPure
import Derived.KernelRfl
namespace Go.Proofs.Ytngagfoikpjpmaa
open Go.RowKit Go.Maps

theorem nums_at {w : World} {B : Nat} {A : Option Addr} {l : List Int} (h : Nums w B A l) {i : Nat} (hi : i < l.length) : ∃ b off, A = some ⟨b, off, none⟩ ∧ b < B ∧ w.cell? ⟨b, off + i, none⟩ = some (.int .i64 (vat l i)) := by
  obtain ⟨b, off, e, hb, hc⟩ := h (by omega)
  exact ⟨b, off, e, hb, by rw [vat_get l hi]; exact hc i hi⟩

set_option maxHeartbeats 800000 in
theorem vcheck_any (A1 A2 : Option Addr) (c1 c2 : Nat) (a b : List Int) (w : World) (h1 : Nums w w.heap.size A1 a) (h2 : Nums w w.heap.size A2 b) (ha : a.length ≤ 17592186044416) (hb : b.length ≤ 17592186044416) :
    Calls Try.prog 23 #[.slice A1 a.length c1, .slice A2 b.length c2] w fun e w' => e = .returned (.int .i64 (vcode a b)) ∧ w = w' := by
  by_cases hz : a.length = 0
  · have e1 : vcode a b = 1 := by unfold vcode; rw [if_pos (.inl hz)]
    rw [e1, hz]
    clear e1
    go_enter Try.func23, Try.ntmps23
    go_wp2_with fail
    go_ret
    exact ⟨rfl, rfl⟩
  have hzb : ((a.length : Int) == 0) = false := by simp [hz]
  by_cases hl : 6 < a.length
  · have e1 : vcode a b = 1 := by unfold vcode; rw [if_pos (.inr hl)]
    rw [e1]
    clear e1
    have hlI : (6 : Int) < (a.length : Int) := by omega
    go_enter Try.func23, Try.ntmps23
    go_wp2_with fail
    go_ret
    exact ⟨rfl, rfl⟩
  have hlI : ¬ (6 : Int) < (a.length : Int) := by omega
  by_cases hs : b.length = a.length
  · obtain ⟨C, hC⟩ : ∃ C, Hid (C = vcode a b) := ⟨_, rfl⟩
    rw [← hC.out]
    have h4 : Hid (∀ i, i < a.length → vat a i < 0 ∨ vat b i < 0 → C = 4) := fun i hi h => by
      rw [hC.out]; unfold vcode
      rw [if_neg (by omega), if_neg (by simp [hs])]
      refine if_pos ?_
      rw [negB_iff, negB_iff]
      rcases h with h | h
      · exact .inl ⟨i, hi, h⟩
      · exact .inr ⟨i, by omega, h⟩
    have h0 : Hid ((∀ i, i < a.length → 0 ≤ vat a i ∧ 0 ≤ vat b i) → C = 0) := fun h => by
      rw [hC.out]
      exact (vcode_ok a b).2 ⟨by omega, hs, fun i hi => (h i hi).1, fun i hi => (h i hi).2⟩
    rw [hs]
    have hsH := Lib.hid hs
    clear hC hs
    go_enter Try.func23, Try.ntmps23
    go_wp2_with fail
    go_loop [21] (fun t => ∃ k : Nat, k ≤ a.length ∧ t = .int .i64 k ∧ Hid (∀ i, i < k → 0 ≤ vat a i ∧ 0 ≤ vat b i)) (fun t => a.length - (intOf t).toNat)
    case atStart => exact ⟨0, Nat.zero_le _, rfl, fun i hi => by omega⟩
    case round =>
      obtain ⟨k, hk, rfl, hR⟩ := hrel
      by_cases hlt : k < a.length
      · obtain ⟨b1, o1, rfl, hb1, x1⟩ := nums_at h1 hlt
        obtain ⟨b2, o2, rfl, hb2, x2⟩ := nums_at h2 (i := k) (by have := hsH.out; omega)
        have h4k := Lib.hid (h4.out k hlt)
        have hRn : Hid (0 ≤ vat a k → 0 ≤ vat b k → ∀ i, i < k + 1 → 0 ≤ vat a i ∧ 0 ≤ vat b i) := fun y1 y2 i hi => by
          by_cases e : i = k
          · subst e; exact ⟨y1, y2⟩
          · exact hR.out i (by omega)
        generalize vat a k = x at *
        generalize vat b k = y at *
        by_cases d1 : x < 0
        · have e4 := h4k.out (.inl d1)
          subst e4
          go_wp2_with fail
          go_ret
          exact ⟨rfl, rfl⟩
        by_cases d2 : y < 0
        · have e4 := h4k.out (.inr d2)
          subst e4
          go_wp2_with fail
          go_ret
          exact ⟨rfl, rfl⟩
        · go_wp2_with fail
          go_round
          case rel => exact ⟨k + 1, by omega, by go_num, hRn.out (by omega) (by omega)⟩
          case measure => simp [intOf]; omega
      · have hkl : k = a.length := by omega
        subst hkl
        have e0 := h0.out hR.out
        subst e0
        go_wp2_with fail
        go_ret
        exact ⟨rfl, rfl⟩
  · have e1 : vcode a b = 3 := by unfold vcode; rw [if_neg (by omega), if_pos hs]
    rw [e1]
    clear e1
    have hsb : ((b.length : Int) != (a.length : Int)) = true := by simp; omega
    have hsb2 : (b.length != a.length) = true := by simp; omega
    go_enter Try.func23, Try.ntmps23
    go_wp2_with fail
    go_ret
    exact ⟨rfl, rfl⟩

#print axioms vcheck_any
end Go.Proofs.Ytngagfoikpjpmaa
