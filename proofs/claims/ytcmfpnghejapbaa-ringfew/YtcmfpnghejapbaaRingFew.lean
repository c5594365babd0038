/-
  The walk of the law RingFew: a phase keeps no more than half of the numbers, and the greatest.
-/
import Derived.Test.YtcmfpnghejapbaaHvs
import Derived.Test.YtcmfpnghejapbaaHsl
namespace Go.Proofs.Ytcmfpnghejapbaa
open Go.RowKit Go.Maps

/-- The greatest of the first k numbers (of one at least) stands at m. -/
def MostTo (l : List Int) (k : Nat) (x : Int) : Prop := ∃ m, m < l.length ∧ x = vat l m ∧ ∀ i, i < k → vat l i ≤ x

set_option maxHeartbeats 4000000 in
theorem ringFew_law (w : World) (A : Option Addr) (cap : Nat) (l : List Int) (hE : Nums w w.heap.size A l) (_hf : NumFits l) (hc : l.length ≤ cap) (_hm : l.length ≤ maxLen) (hs : l.length ≤ 17592186044416) :
    Calls Try.prog 8 #[.slice A l.length cap] w fun e w' => e = .returned (.bool true) ∧ Below w.heap.size w w' := by
  by_cases h0 : rcode l = 0
  · have hRH := Lib.hid ((rcode_ok l).1 h0)
    have hl : l.length ≤ 12 := hRH.out.len.2
    have hl1 : 1 ≤ l.length := hRH.out.len.1
    have hb0 : (rcode l == 0) = true := by simp [h0]
    have h0H := Lib.hid hb0
    have hEH := Lib.hid hE
    have hh1 : 1 ≤ (half l).length := (half_rng hRH.out).len.1
    have hh2 : (half l).length ≤ 12 := (half_rng hRH.out).len.2
    have hdis := Lib.hid (half_rng hRH.out).dis
    have hfew : Hid (1 < l.length → 2 * (half l).length ≤ l.length) := fun h => half_few h
    have hmem : Hid (∀ i, i < (half l).length → vat (half l) i ∈ l) := fun i hi => half_mem hRH.out (by rw [vat_get _ hi]; exact List.getElem_mem hi)
    have hmost : Hid (∀ x, MostTo l l.length x → x ∈ half l) := fun x ⟨m, h1, h2, h3⟩ => by
      rw [h2]; exact half_most hRH.out h1 (fun i hi => by rw [← h2]; exact h3 i hi)
    clear h0 hE hb0
    go_enter Try.func8, Try.ntmps8
    go_wp2_with fail
    refine (rhf_ok A cap l w hEH.out hc hRH.out).mono ?_
    rintro e w1 ⟨A1, c1, rfl, hc1, hN1, hB1⟩
    have hE1 := (hEH.out.below hB1).more hB1.size
    go_wp2_with fail
    refine (ringed_any A cap l _ hE1 hs).mono ?_
    rintro e w2 ⟨rfl, hB2⟩
    have hE2 := Lib.hid ((hE1.below hB2).more hB2.size)
    have hN2 := Lib.hid ((hN1.below hB2).more hB2.size)
    have hB3 := hB1.trans (hB2.mono hB1.size)
    clear hE1 hN1 hB1 hB2
    rw [h0H.out]
    generalize hhq : half l = hq at *
    clear hhq
    obtain ⟨b, off, rfl, hb, hcells⟩ := nums_cells hE2.out (by omega)
    obtain ⟨b1, off1, rfl, hb1, hcells1⟩ := nums_cells hN2.out (by omega)
    have hcH := Lib.hid hcells
    have hc1H := Lib.hid hcells1
    have c0 := hcells 0 (by omega)
    rw [Nat.add_zero] at c0
    have hz1 : ((hq.length : Int) == 0) = false := by
      rw [beq_eq_false_iff_ne]
      omega
    have hx0 : Hid (MostTo l 0 (vat l 0)) := ⟨0, by omega, rfl, fun i hi => by omega⟩
    clear hcells hcells1
    generalize vat l 0 = x0 at *
    by_cases e1 : 1 < l.length
    · have e1I : (1 : Int) < (l.length : Int) := by omega
      have e2 := hfew.out e1
      have e2I : ¬ (l.length : Int) < 2 * (hq.length : Int) := by omega
      go_wp2_with fail
      go_loop [5, 45] (fun m t => ∃ (k : Nat) (x : Int), k ≤ l.length ∧ t = .int .i64 k ∧ m = .int .i64 x ∧ Hid (MostTo l k x)) (fun _ t => l.length - (intOf t).toNat)
      case atStart => exact ⟨0, x0, Nat.zero_le _, rfl, rfl, hx0⟩
      case round =>
        obtain ⟨k, x, hk, rfl, rfl, hx⟩ := hrel
        by_cases hlt : k < l.length
        · have hkI : (k : Int) < (l.length : Int) := by omega
          have ck := hcH.out k hlt
          have hstep : Hid (∀ y, y = vat l k → (x < y → MostTo l (k + 1) y) ∧ (¬ x < y → MostTo l (k + 1) x)) := fun y hy => by
            obtain ⟨m, h1, h2, h3⟩ := hx.out
            refine ⟨fun h => ⟨k, hlt, hy, fun i hi => ?_⟩, fun h => ⟨m, h1, h2, fun i hi => ?_⟩⟩
            · by_cases e : i = k
              · rw [e, hy]; exact Int.le_refl _
              · have := h3 i (by omega)
                omega
            · by_cases e : i = k
              · rw [e, ← hy]; omega
              · exact h3 i (by omega)
          have hst := Lib.hid (hstep.out _ rfl)
          clear hstep hx
          generalize vat l k = y at *
          by_cases d : x < y
          · have dd : decide (x < y) = true := by simp [d]
            have hnx := Lib.hid (hst.out.1 d)
            clear hst d
            go_wp2_with fail
            go_round
            case rel => exact ⟨k + 1, y, by omega, by go_num, rfl, hnx⟩
            case measure => simp [intOf]; omega
          · have dd : decide (x < y) = false := by simp [d]
            have hnx := Lib.hid (hst.out.2 d)
            clear hst d
            go_wp2_with fail
            go_round
            case rel => exact ⟨k + 1, x, by omega, by go_num, rfl, hnx⟩
            case measure => simp [intOf]; omega
        · have hkl : k = l.length := by omega
          subst hkl
          have hxm := Lib.hid (hmost.out x hx.out)
          clear hx
          go_wp2_with fail
          go_loop [56] (fun t => ∃ k : Nat, k ≤ hq.length ∧ t = .int .i64 k) (fun t => hq.length - (intOf t).toNat)
          case atStart => exact ⟨0, Nat.zero_le _, rfl⟩
          case round =>
            obtain ⟨k, hk, rfl⟩ := hrel
            by_cases hlt : k < hq.length
            · have hkI : (k : Int) < (hq.length : Int) := by omega
              have hkc : (k : Int) ≤ (c1 : Int) := by omega
              have ck := hc1H.out k hlt
              have hm1 := hmem.out k hlt
              have htl : Hid ((hq.take k).length = k) := by unfold Hid; simp; omega
              have hno : ¬ vat hq k ∈ hq.take k := fun h => take_dup hlt h hdis.out
              have q1 := Lib.hid (hasL_any (some ⟨b, off, none⟩) cap l (vat hq k) w2 hE2.out (by omega) true ⟨fun _ => hm1, fun _ => rfl⟩)
              have q2 := hasL_any (some ⟨b1, off1, none⟩) c1 (hq.take k) (vat hq k) w2 (hN2.out.take k) (by have := htl.out; omega) false ⟨(nomatch ·), fun h => absurd h hno⟩
              rw [htl.out] at q2
              have q2H := Lib.hid q2
              clear q2 hno hm1
              generalize vat hq k = y at *
              go_wp2_with fail
              refine q1.out.mono ?_
              rintro e w3 ⟨rfl, rfl⟩
              go_wp2_with fail
              refine q2H.out.mono ?_
              rintro e w3 ⟨rfl, rfl⟩
              go_wp2_with fail
              go_round
              case rel => exact ⟨k + 1, by omega, by go_num⟩
              case measure => simp [intOf]; omega
            · have hkq : k = hq.length := by omega
              subst hkq
              go_wp2_with fail
              refine (hasL_any (some ⟨b1, off1, none⟩) c1 hq x w2 hN2.out (by omega) true ⟨fun _ => hxm.out, fun _ => rfl⟩).mono ?_
              rintro e w3 ⟨rfl, rfl⟩
              go_wp2_with fail
              go_ret
              exact ⟨rfl, hB3⟩
    · have e1I : ¬ (1 : Int) < (l.length : Int) := by omega
      go_wp2_with fail
      go_loop [5, 45] (fun m t => ∃ (k : Nat) (x : Int), k ≤ l.length ∧ t = .int .i64 k ∧ m = .int .i64 x ∧ Hid (MostTo l k x)) (fun _ t => l.length - (intOf t).toNat)
      case atStart => exact ⟨0, x0, Nat.zero_le _, rfl, rfl, hx0⟩
      case round =>
        obtain ⟨k, x, hk, rfl, rfl, hx⟩ := hrel
        by_cases hlt : k < l.length
        · have hkI : (k : Int) < (l.length : Int) := by omega
          have ck := hcH.out k hlt
          have hstep : Hid (∀ y, y = vat l k → (x < y → MostTo l (k + 1) y) ∧ (¬ x < y → MostTo l (k + 1) x)) := fun y hy => by
            obtain ⟨m, h1, h2, h3⟩ := hx.out
            refine ⟨fun h => ⟨k, hlt, hy, fun i hi => ?_⟩, fun h => ⟨m, h1, h2, fun i hi => ?_⟩⟩
            · by_cases e : i = k
              · rw [e, hy]; exact Int.le_refl _
              · have := h3 i (by omega)
                omega
            · by_cases e : i = k
              · rw [e, ← hy]; omega
              · exact h3 i (by omega)
          have hst := Lib.hid (hstep.out _ rfl)
          clear hstep hx
          generalize vat l k = y at *
          by_cases d : x < y
          · have dd : decide (x < y) = true := by simp [d]
            have hnx := Lib.hid (hst.out.1 d)
            clear hst d
            go_wp2_with fail
            go_round
            case rel => exact ⟨k + 1, y, by omega, by go_num, rfl, hnx⟩
            case measure => simp [intOf]; omega
          · have dd : decide (x < y) = false := by simp [d]
            have hnx := Lib.hid (hst.out.2 d)
            clear hst d
            go_wp2_with fail
            go_round
            case rel => exact ⟨k + 1, x, by omega, by go_num, rfl, hnx⟩
            case measure => simp [intOf]; omega
        · have hkl : k = l.length := by omega
          subst hkl
          have hxm := Lib.hid (hmost.out x hx.out)
          clear hx
          go_wp2_with fail
          go_loop [56] (fun t => ∃ k : Nat, k ≤ hq.length ∧ t = .int .i64 k) (fun t => hq.length - (intOf t).toNat)
          case atStart => exact ⟨0, Nat.zero_le _, rfl⟩
          case round =>
            obtain ⟨k, hk, rfl⟩ := hrel
            by_cases hlt : k < hq.length
            · have hkI : (k : Int) < (hq.length : Int) := by omega
              have hkc : (k : Int) ≤ (c1 : Int) := by omega
              have ck := hc1H.out k hlt
              have hm1 := hmem.out k hlt
              have htl : Hid ((hq.take k).length = k) := by unfold Hid; simp; omega
              have hno : ¬ vat hq k ∈ hq.take k := fun h => take_dup hlt h hdis.out
              have q1 := Lib.hid (hasL_any (some ⟨b, off, none⟩) cap l (vat hq k) w2 hE2.out (by omega) true ⟨fun _ => hm1, fun _ => rfl⟩)
              have q2 := hasL_any (some ⟨b1, off1, none⟩) c1 (hq.take k) (vat hq k) w2 (hN2.out.take k) (by have := htl.out; omega) false ⟨(nomatch ·), fun h => absurd h hno⟩
              rw [htl.out] at q2
              have q2H := Lib.hid q2
              clear q2 hno hm1
              generalize vat hq k = y at *
              go_wp2_with fail
              refine q1.out.mono ?_
              rintro e w3 ⟨rfl, rfl⟩
              go_wp2_with fail
              refine q2H.out.mono ?_
              rintro e w3 ⟨rfl, rfl⟩
              go_wp2_with fail
              go_round
              case rel => exact ⟨k + 1, by omega, by go_num⟩
              case measure => simp [intOf]; omega
            · have hkq : k = hq.length := by omega
              subst hkq
              go_wp2_with fail
              refine (hasL_any (some ⟨b1, off1, none⟩) c1 hq x w2 hN2.out (by omega) true ⟨fun _ => hxm.out, fun _ => rfl⟩).mono ?_
              rintro e w3 ⟨rfl, rfl⟩
              go_wp2_with fail
              go_ret
              exact ⟨rfl, hB3⟩
  · have hr : (rcode l != 0) = true := by simp [h0]
    have hb0 : (rcode l == 0) = false := by simp [h0]
    have hb0H := Lib.hid hb0
    have h0H := Lib.hid h0
    have hEH := Lib.hid hE
    clear h0 hE hb0
    go_enter Try.func8, Try.ntmps8
    go_wp2_with fail
    refine (rhf_no A cap l w hEH.out hc hs h0H.out).mono ?_
    rintro e w1 ⟨rfl, rfl⟩
    go_wp2_with fail
    refine (ringed_any A cap l _ hEH.out hs).mono ?_
    rintro e w2 ⟨rfl, hB2⟩
    rw [hb0H.out]
    go_wp2_with fail
    go_ret
    exact ⟨by simp, hB2⟩

#print axioms ringFew_law
end Go.Proofs.Ytcmfpnghejapbaa
