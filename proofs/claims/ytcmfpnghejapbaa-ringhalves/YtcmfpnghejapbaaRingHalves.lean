/-
  The walk of the law RingHalves: ring.Halves and the document's answer are alike.
-/
import Derived.Test.YtcmfpnghejapbaaHvs
import Derived.Test.YtcmfpnghejapbaaRhf
namespace Go.Proofs.Ytcmfpnghejapbaa
open Go.RowKit Go.Maps

set_option maxHeartbeats 1000000 in
theorem ringHalves_law (w : World) (A : Option Addr) (cap : Nat) (l : List Int) (hE : Nums w w.heap.size A l) (_hf : NumFits l) (hc : l.length ≤ cap) (_hm : l.length ≤ maxLen) (hs : l.length ≤ 17592186044416) :
    Calls Try.prog 5 #[.slice A l.length cap] w fun e w' => e = .returned (.bool true) ∧ Below w.heap.size w w' := by
  by_cases h0 : rcode l = 0
  · have hRH := Lib.hid ((rcode_ok l).1 h0)
    have hl : l.length ≤ 12 := hRH.out.len.2
    have h0H := Lib.hid h0
    have hEH := Lib.hid hE
    clear h0 hE
    go_enter Try.func5, Try.ntmps5
    go_wp2_with fail
    refine (halves_ok A cap l w hEH.out hc hRH.out).mono ?_
    rintro e w1 ⟨k, rfl, hk, hk12, hB1⟩
    have hkH := Lib.hid hk
    clear hk
    have hE1 := (hEH.out.below hB1).more hB1.size
    go_wp2_with fail
    refine (rrcheck_any A cap l _ hE1 hs).mono ?_
    rintro e w2 ⟨rfl, hB2⟩
    have hE2 := (hE1.below hB2).more hB2.size
    have hB3 := hB1.trans (hB2.mono hB1.size)
    clear hE1 hB1 hB2
    rw [h0H.out]
    go_wp2_with fail
    go_loopw [0, 6] (fun v p wr => ∃ j : Nat, p = .int .i64 j ∧ HvRel l w j v wr) (fun v _ _ => lenOf v)
    case atStart => exact ⟨0, rfl, ⟨A, cap, rfl, hE2⟩, fun i hi => by omega, hB3⟩
    case round =>
      clear hE2 hB3
      obtain ⟨j, rfl, ⟨A1, c1, rfl, hN⟩, hall, hB⟩ := hrel
      have hfew := phs_few hall
      have hR1 := Lib.hid (phs_rng hRH.out j)
      have hallH := Lib.hid hall
      have hless : Hid (1 < (phs l j).length → (phs l (j + 1)).length < (phs l j).length) := fun h => phs_less h
      have hh : Hid (half (phs l j) = phs l (j + 1)) := rfl
      clear hall
      by_cases hlt : 1 < (phs l j).length
      · have hltI : (1 : Int) < ((phs l j).length : Int) := by omega
        go_wp2_with fail
        refine (rhalf_any A1 c1 (phs l j) wr hN hR1.out).mono ?_
        rintro e w3 ⟨A2, c2, rfl, _, hN2, hB2⟩
        rw [hh.out] at hN2 ⊢
        have hB3 := hB.trans (hB2.mono hB.size)
        have hall2 : Hid (∀ i, i < j + 1 → 1 < (phs l i).length) := fun i hi => by
          by_cases e : i = j
          · rw [e]; exact hlt
          · exact hallH.out i (by omega)
        go_wp2_with fail
        go_roundw
        case rel => exact ⟨j + 1, by go_num, ⟨A2, c2, rfl, hN2⟩, hall2.out, hB3⟩
        case measure => exact hless.out hlt
      · have hltI : ¬ (1 : Int) < ((phs l j).length : Int) := by omega
        have hkj : k = j := hkH.out.uniq ⟨by omega, hallH.out⟩
        subst hkj
        go_wp2_with fail
        go_ret
        exact ⟨by simp, hB⟩
  · have hr : (rcode l != 0) = true := by simp [h0]
    have h0H := Lib.hid h0
    have hEH := Lib.hid hE
    clear h0 hE
    go_enter Try.func5, Try.ntmps5
    go_wp2_with fail
    refine (halves_no A cap l w hEH.out hc hs h0H.out).mono ?_
    rintro e w1 ⟨rfl, rfl⟩
    go_wp2_with fail
    refine (rrcheck_any A cap l _ hEH.out hs).mono ?_
    rintro e w2 ⟨rfl, hB2⟩
    go_wp2_with fail
    go_ret
    exact ⟨by simp, hB2⟩

#print axioms ringHalves_law
end Go.Proofs.Ytcmfpnghejapbaa
