/-
  The contract of beaconryref.VectorsCheck.
-/
import Derived.Test.YtngagfoikpjpmaaVCk
import Derived.Test.YtngagfoikpjpmaaRowW
namespace Go.Proofs.Ytngagfoikpjpmaa
open Go.RowKit Go.Maps

/-- While the numbers are looked at: those so far are not negative. -/
def VcRel (a b : List Int) (k q : Nat) : Prop := (∀ i, i < a.length → (0 < k ∨ i < q) → 0 ≤ vat a i) ∧ ∀ i, i < a.length → (1 < k ∨ (k = 1 ∧ i < q)) → 0 ≤ vat b i

set_option maxHeartbeats 1000000 in
theorem rvcheck_any (A1 A2 : Option Addr) (c1 c2 : Nat) (a b : List Int) (w : World) (h1 : Nums w w.heap.size A1 a) (h2 : Nums w w.heap.size A2 b) (ha : a.length ≤ 17592186044416) (_hb : b.length ≤ 17592186044416) :
    Calls Try.prog 15 #[.slice A1 a.length c1, .slice A2 b.length c2] w fun e w' => e = .returned (.int .i64 (vcode a b)) ∧ Below w.heap.size w w' := by
  by_cases hz : a.length < 1
  · have e1 : vcode a b = 1 := by unfold vcode; rw [if_pos (by omega)]
    rw [e1]
    clear e1
    have hzI : (a.length : Int) < 1 := by omega
    go_enter Try.func15, Try.ntmps15
    go_wp2_with fail
    go_ret
    exact ⟨rfl, Below.refl _ _⟩
  have hzI : ¬ (a.length : Int) < 1 := by omega
  by_cases hl : 6 < a.length
  · have e1 : vcode a b = 1 := by unfold vcode; rw [if_pos (.inr hl)]
    rw [e1]
    clear e1
    have hlI : (6 : Int) < (a.length : Int) := by omega
    go_enter Try.func15, Try.ntmps15
    go_wp2_with fail
    go_ret
    exact ⟨rfl, Below.refl _ _⟩
  have hlI : ¬ (6 : Int) < (a.length : Int) := by omega
  by_cases hs : b.length = a.length
  · obtain ⟨C, hC⟩ : ∃ C, Hid (C = vcode a b) := ⟨_, rfl⟩
    rw [← hC.out]
    have h4 : Hid (∀ i, i < a.length → vat a i < 0 ∨ vat b i < 0 → C = 4) := fun i hi h => by
      rw [hC.out]; unfold vcode
      rw [if_neg (by omega), if_neg (by simp [hs])]
      refine if_pos ?_
      rw [negB_iff, negB_iff]
      rcases h with h | h
      · exact .inl ⟨i, hi, h⟩
      · exact .inr ⟨i, by omega, h⟩
    have h0 : Hid ((∀ i, i < a.length → 0 ≤ vat a i ∧ 0 ≤ vat b i) → C = 0) := fun h => by
      rw [hC.out]
      exact (vcode_ok a b).2 ⟨by omega, hs, fun i hi => (h i hi).1, fun i hi => (h i hi).2⟩
    rw [hs]
    have hsH := Lib.hid hs
    clear hC hs
    go_enter Try.func15, Try.ntmps15
    go_wp2_with fail
    have hB1 : Below w.heap.size w (w.alloc (.cells #[.slice A1 a.length c1, .slice A2 a.length c2] 31)) := (Below.refl _ _).alloc (Nat.le_refl _) _
    have hR1 : Row (w.alloc (.cells #[.slice A1 a.length c1, .slice A2 a.length c2] 31)) w.heap.size 31 [.slice A1 a.length c1, .slice A2 a.length c2] := Row.made _ _ _
    have s0 := hR1.cell (i := 0) (by simp)
    have s1 := hR1.cell (i := 1) (by simp)
    have n1 := h1.below hB1
    have n2 := h2.below hB1
    clear hR1
    generalize w.alloc (.cells #[.slice A1 a.length c1, .slice A2 a.length c2] 31) = w1 at *
    go_loop [26] (fun t => ∃ k : Nat, k ≤ 2 ∧ t = .int .i64 k ∧ VcRel a b k 0) (fun t => 2 - (intOf t).toNat)
    case atStart => exact ⟨0, by omega, rfl, fun i _ h => by omega, fun i _ h => by omega⟩
    case round =>
      obtain ⟨k, hk, rfl, hR⟩ := hrel
      by_cases hk2 : k < 2
      · obtain ⟨A, c, l, hll, s2, nl, hl4, hst, hnx⟩ : ∃ A c, ∃ l : List Int, l.length = a.length ∧ w1.cell? ⟨w.heap.size, k, none⟩ = some (.slice A a.length c) ∧ Nums w1 w.heap.size A l ∧ Hid (∀ i, i < a.length → vat l i < 0 → C = 4) ∧ Hid (∀ q, VcRel a b k q → 0 ≤ vat l q → VcRel a b k (q + 1)) ∧ Hid (VcRel a b k a.length → VcRel a b (k + 1) 0) := by
          have e : k = 0 ∨ k = 1 := by omega
          rcases e with rfl | rfl
          · refine ⟨A1, c1, a, rfl, s0, n1, fun i hi h => h4.out i hi (.inl h), fun q hq h => ⟨fun i hi h3 => ?_, fun i hi h3 => by omega⟩, fun h => ⟨fun i hi _ => h.1 i hi (by omega), fun i hi h3 => by omega⟩⟩
            by_cases e : i = q
            · rw [e]; exact h
            · exact hq.1 i hi (by omega)
          · refine ⟨A2, c2, b, hsH.out, s1, n2, fun i hi h => h4.out i hi (.inr h), fun q hq h => ⟨fun i hi _ => hq.1 i hi (by omega), fun i hi h3 => ?_⟩, fun h => ⟨fun i hi _ => h.1 i hi (by omega), fun i hi h3 => h.2 i hi (by omega)⟩⟩
            by_cases e : i = q
            · rw [e]; exact h
            · exact hq.2 i hi (by omega)
        have hRH := Lib.hid hR
        clear hR s0 s1 n1 n2 h1 h2
        have hkI : (k : Int) < 2 := by omega
        have hllH := Lib.hid hll
        clear hll
        go_wp2_with fail
        go_loop [32] (fun t => ∃ q : Nat, q ≤ a.length ∧ t = .int .i64 q ∧ Hid (VcRel a b k q)) (fun t => a.length - (intOf t).toNat)
        case atStart => exact ⟨0, Nat.zero_le _, rfl, hRH⟩
        case round =>
          obtain ⟨q, hq, rfl, hR⟩ := hrel
          by_cases hlt : q < a.length
          · obtain ⟨b1, o1, rfl, hb1, x1⟩ := nums_at nl (i := q) (by have := hllH.out; omega)
            have hC4 := Lib.hid (hl4.out q hlt)
            have hRn := Lib.hid (hst.out q hR.out)
            clear s2
            generalize vat l q = x at *
            by_cases d1 : x < 0
            · have e4 := hC4.out d1
              subst e4
              go_wp2_with fail
              go_ret
              exact ⟨rfl, hB1⟩
            · go_wp2_with fail
              go_round
              case rel => exact ⟨q + 1, by omega, by go_num, hRn.out (by omega)⟩
              case measure => simp [intOf]; omega
          · have hql : q = a.length := by omega
            subst hql
            have hRn := hnx.out hR.out
            clear s2
            go_wp2_with fail
            go_round
            case rel => exact ⟨k + 1, by omega, by go_num, hRn⟩
            case measure => simp [intOf]; omega
      · have hk3 : k = 2 := by omega
        subst hk3
        have e0 := h0.out fun i hi => ⟨hR.1 i hi (by omega), hR.2 i hi (by omega)⟩
        subst e0
        go_wp2_with fail
        go_ret
        exact ⟨rfl, hB1⟩
  · have e1 : vcode a b = 3 := by unfold vcode; rw [if_neg (by omega), if_pos hs]
    rw [e1]
    clear e1
    have hsb : ((b.length : Int) != (a.length : Int)) = true := by simp; omega
    have hsb2 : (b.length != a.length) = true := by simp; omega
    go_enter Try.func15, Try.ntmps15
    go_wp2_with fail
    go_ret
    exact ⟨rfl, Below.refl _ _⟩

#print axioms rvcheck_any
end Go.Proofs.Ytngagfoikpjpmaa
