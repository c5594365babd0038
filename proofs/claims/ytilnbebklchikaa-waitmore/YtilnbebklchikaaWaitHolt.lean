/-
  The walk of the law beaconrykeep.WaitHolt.
-/
import Derived.Test.YtilnbebklchikaaWnv
namespace Go.Proofs.Ytilnbebklchikaa
open Go.RowKit Go.Maps
set_option linter.unusedVariables false

theorem allOut_bit {l : List Nat} (hV : WV l) (i : Nat) : (allOut l).testBit i = true ↔ i < l.length ∧ (fAll l).testBit i = false := by
  rw [allOut_ok hV]
  exact nev_bit hV.six (fin_lt _ _) i
theorem anyOut_bit {l : List Nat} (hV : WV l) (i : Nat) : (anyOut l).testBit i = true ↔ i < l.length ∧ (fAny l).testBit i = false := by
  rw [anyOut_ok hV]
  exact nev_bit hV.six (fin_lt _ _) i
theorem allOut_lt {l : List Nat} (hV : WV l) : allOut l < 2 ^ l.length := by rw [allOut_ok hV]; exact nev_lt hV.six (fin_lt _ _)
theorem anyOut_lt {l : List Nat} (hV : WV l) : anyOut l < 2 ^ l.length := by rw [anyOut_ok hV]; exact nev_lt hV.six (fin_lt _ _)
theorem any_all {l : List Nat} (hV : WV l) : subW (anyOut l) (allOut l) := fun b hb => by
  rw [anyOut_bit hV] at hb
  rw [allOut_bit hV]
  refine ⟨hb.1, ?_⟩
  cases e : (fAll l).testBit b with
  | false => rfl
  | true => rw [all_any e] at hb; cases hb.2
theorem holt_any {l : List Nat} (hV : WV l) {i : Nat} (hi : i < l.length) (h0 : wat l i ≠ 0) : (anyOut l).testBit i = true ↔ subW (wat l i) (anyOut l) := by
  rw [anyOut_bit hV]
  constructor
  · rintro ⟨_, hf⟩ b hb
    rw [anyOut_bit hV]
    refine ⟨hV.to hb, ?_⟩
    cases e : (fAny l).testBit b with
    | false => rfl
    | true => rw [(fAny_iff hi).2 (.inr ⟨b, hb, e⟩)] at hf; cases hf
  · intro h
    refine ⟨hi, ?_⟩
    rw [← Bool.not_eq_true, fAny_iff hi]
    rintro (h1 | ⟨b, hb, e⟩)
    · exact h0 h1
    · have := (anyOut_bit hV b).1 (h b hb)
      rw [this.2] at e
      cases e
theorem holt_any0 {l : List Nat} (hV : WV l) {i : Nat} (hi : i < l.length) (h0 : wat l i = 0) : (anyOut l).testBit i = false := by
  rw [← Bool.not_eq_true, anyOut_bit hV]
  intro h
  rw [(fAny_iff hi).2 (.inl h0)] at h
  cases h.2
theorem holt_all {l : List Nat} (hV : WV l) {i : Nat} (hi : i < l.length) : (allOut l).testBit i = true ↔ wat l i &&& allOut l ≠ 0 := by
  rw [allOut_bit hV, and_zero]
  constructor
  · rintro ⟨_, hf⟩
    apply Classical.byContradiction
    intro hn
    rw [(fAll_iff hi).2 fun b hb => by
      cases e : (fAll l).testBit b with
      | true => rfl
      | false => exact absurd ⟨b, hb, (allOut_bit hV b).2 ⟨hV.to hb, e⟩⟩ hn] at hf
    cases hf
  · rintro ⟨b, hb, e⟩
    refine ⟨hi, ?_⟩
    rw [← Bool.not_eq_true, fAll_iff hi]
    intro h
    have := (allOut_bit hV b).1 e
    rw [h b hb] at this
    cases this.2

set_option maxHeartbeats 3200000 in
theorem waitHolt_law (w : World) (A : Option Addr) (cap : Nat) (l : List Nat) (hE : Wds w w.heap.size A l) (hF : WFits l) (hc : l.length ≤ cap) (hl : l.length ≤ maxLen) (hs : l.length ≤ 35184372088832) :
    Calls Try.prog 6 #[.slice A l.length cap] w fun e w' => e = .returned (.bool true) ∧ Below w.heap.size w w' := by
  have hall := Lib.hid (all_any_ cap w A l hE hF hl)
  have hany : Hid (∀ w1, Below w.heap.size w w1 → Calls Try.prog 12 #[.slice A l.length cap] w1 (SetRes w1 (anyOut l) (waitCode l))) := fun w1 hB => any_any_ cap w1 A l ((hE.below hB).more hB.size) hF hl
  have hEH := Lib.hid hE
  by_cases hV : WV l
  · have hwt : Hid (∀ w1, Below w.heap.size w w1 → Calls Try.prog 18 #[.slice A l.length cap] w1 fun e w' => e = .returned (.bool true) ∧ w1 = w') := fun w1 hB => waited_any cap w1 A l ((hE.below hB).more hB.size) hF hl true ⟨fun _ => hV, fun _ => rfl⟩
    have hcode := (waitCode_iff l).2 hV
    rw [hcode] at hall hany
    have h6 := hV.six
    have h64 := Nat.pow_le_pow_right (n := 2) (by omega) h6
    have ha := allOut_lt hV
    have hb := anyOut_lt hV
    have f1 : Hid (bits BinOp.andNot IntKind.u32 (anyOut l : Int) (allOut l : Int) = 0) := by
      unfold Hid
      rw [u32_andNot_nat _ _ (by omega) (by omega), (andNot_zero _ _ (by omega) (by omega)).2 (any_all hV)]
      rfl
    have f2 : Hid (∀ i, i < l.length → (wat l i = 0 ∧ (anyOut l).testBit i = false) ∨ (((wat l i : Int) != 0) = true ∧ (bits BinOp.andNot IntKind.u32 (wat l i : Int) (anyOut l : Int) == 0) = (anyOut l).testBit i)) := fun i hi => by
      by_cases h0 : wat l i = 0
      · exact .inl ⟨h0, holt_any0 hV hi h0⟩
      · refine .inr ⟨by simp; omega, ?_⟩
        rw [u32_andNot_nat _ _ (hV.u32 i) (by omega), Bool.eq_iff_iff, beq_iff_eq, holt_any hV hi h0, ← andNot_zero _ _ (hV.u32 i) (by omega)]
        omega
    have f3 : Hid (∀ i, i < l.length → (bits BinOp.and IntKind.u32 (wat l i : Int) (allOut l : Int) != 0) = (allOut l).testBit i) := fun i hi => by
      rw [u32_and_nat _ _ (hV.u32 i) (by omega), Bool.eq_iff_iff, bne_iff_ne, holt_all hV hi]
      omega
    generalize anyOut l = Y at *
    generalize allOut l = X at *
    clear hE hF hV hcode
    go_enter Try.func6, Try.ntmps6
    go_wp2_with fail
    refine hall.out.mono ?_
    rintro e w1 ⟨rfl, hB1⟩
    have hany1 := Lib.hid (hany.out w1 hB1)
    clear hany hall
    go_wp2_with fail
    refine hany1.out.mono ?_
    rintro e w2 ⟨rfl, hB2⟩
    have hB3 := hB1.trans (hB2.mono hB1.size)
    have hwt1 := Lib.hid (hwt.out w2 hB3)
    have hE2 := Lib.hid (hEH.out.below hB3)
    have hBH := Lib.hid hB3
    have f1' := f1.out
    clear hany1 hwt hEH hB1 hB2 hB3
    go_wp2_with fail
    refine hwt1.out.mono ?_
    rintro e w3 ⟨rfl, rfl⟩
    go_wp2_with fail
    clear f1'
    go_loop [42] (fun t => ∃ k : Nat, k ≤ l.length ∧ t = .int .i64 k) (fun t => l.length - (intOf t).toNat)
    case atStart => exact ⟨0, Nat.zero_le _, rfl⟩
    case round =>
      obtain ⟨k, hk, rfl⟩ := hrel
      by_cases hlt : k < l.length
      · have hkI : (k : Int) < (l.length : Int) := by omega
        have hcY := Lib.hid (bit_any Y k w2 (by omega) (by omega))
        have hcX := Lib.hid (bit_any X k w2 (by omega) (by omega))
        obtain ⟨b, off, rfl, hb, hcc⟩ := hE2.out (by omega)
        have d0 := hcc k hlt
        have g2 := f2.out k hlt
        have g3 := f3.out k hlt
        generalize wat l k = x at *
        generalize X.testBit k = P at *
        rcases g2 with ⟨rfl, e⟩ | ⟨e0, e⟩
        · rw [e] at hcY
          have g3' : (bits BinOp.and IntKind.u32 0 (X : Int) != 0) = P := g3
          have d0' : w2.cell? ⟨b, off + k, none⟩ = some (.int .u32 0) := d0
          clear e hcc g3 d0
          cases P
          all_goals
            go_wp2_with fail
            refine hcY.out.mono ?_
            rintro e w3 ⟨rfl, rfl⟩
            go_wp2_with fail
            refine hcX.out.mono ?_
            rintro e w3 ⟨rfl, rfl⟩
            go_wp2_with fail
            go_round
            case rel => exact ⟨k + 1, by omega, by go_num⟩
            case measure => simp [intOf]; omega
        · generalize Y.testBit k = R at *
          clear hcc
          cases R
          all_goals
            cases P
            all_goals
              go_wp2_with fail
              refine hcY.out.mono ?_
              rintro e w3 ⟨rfl, rfl⟩
              go_wp2_with fail
              refine hcX.out.mono ?_
              rintro e w3 ⟨rfl, rfl⟩
              go_wp2_with fail
              go_round
              case rel => exact ⟨k + 1, by omega, by go_num⟩
              case measure => simp [intOf]; omega
      · have hkl : k = l.length := by omega
        subst hkl
        go_wp2_with fail
        go_ret
        exact ⟨rfl, hBH.out⟩
  · have hwt : Hid (∀ w1, Below w.heap.size w w1 → Calls Try.prog 18 #[.slice A l.length cap] w1 fun e w' => e = .returned (.bool false) ∧ w1 = w') := fun w1 hB => waited_any cap w1 A l ((hE.below hB).more hB.size) hF hl false ⟨(nomatch ·), fun h => absurd h hV⟩
    have hcode : waitCode l ≠ 0 := fun h => hV ((waitCode_iff l).1 h)
    generalize waitCode l = x at *
    generalize anyOut l = Y at *
    generalize allOut l = X at *
    have hx1 : (x != 0) = true := by simpa using hcode
    clear hE hF hV hEH
    go_enter Try.func6, Try.ntmps6
    go_wp2_with fail
    refine hall.out.mono ?_
    rintro e w1 ⟨rfl, hB1⟩
    have hany1 := Lib.hid (hany.out w1 hB1)
    clear hany hall
    go_wp2_with fail
    refine hany1.out.mono ?_
    rintro e w2 ⟨rfl, hB2⟩
    have hB3 := hB1.trans (hB2.mono hB1.size)
    have hwt1 := Lib.hid (hwt.out w2 hB3)
    clear hany1 hwt hB1 hB2
    go_wp2_with fail
    refine hwt1.out.mono ?_
    rintro e w3 ⟨rfl, rfl⟩
    go_wp2_with fail
    go_ret
    exact ⟨by simp, hB3⟩

#print axioms waitHolt_law
end Go.Proofs.Ytilnbebklchikaa
