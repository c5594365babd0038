/-
  The walk of the law RingHalf: ring.Half and the document's answer are alike.
-/
import Derived.Test.YtcmfpnghejapbaaHvs
import Derived.Test.YtcmfpnghejapbaaRhf
import Derived.Test.YtcmfpnghejapbaaInt
namespace Go.Proofs.Ytcmfpnghejapbaa
open Go.RowKit Go.Maps

set_option maxHeartbeats 1000000 in
theorem ringHalf_law (w : World) (A : Option Addr) (cap : Nat) (l : List Int) (hE : Nums w w.heap.size A l) (_hf : NumFits l) (hc : l.length ≤ cap) (_hm : l.length ≤ maxLen) (hs : l.length ≤ 17592186044416) :
    Calls Try.prog 4 #[.slice A l.length cap] w fun e w' => e = .returned (.bool true) ∧ Below w.heap.size w w' := by
  by_cases h0 : rcode l = 0
  · have hR := Lib.hid ((rcode_ok l).1 h0)
    have h0H := Lib.hid h0
    have hlen : (half l).length ≤ 1000000 := by have := (half_rng hR.out).len; omega
    have hEH := Lib.hid hE
    clear h0 hE
    go_enter Try.func4, Try.ntmps4
    go_wp2_with fail
    refine (rhf_ok A cap l w hEH.out hc hR.out).mono ?_
    rintro e w1 ⟨A1, c1, rfl, _, hN1, hB1⟩
    have hE1 := (hEH.out.below hB1).more hB1.size
    go_wp2_with fail
    refine (rrcheck_any A cap l _ hE1 hs).mono ?_
    rintro e w2 ⟨rfl, hB2⟩
    have hE2 := (hE1.below hB2).more hB2.size
    have hN2 := (hN1.below hB2).more hB2.size
    have hB3 := hB1.trans (hB2.mono hB1.size)
    clear hE1 hN1 hB1 hB2
    rw [h0H.out]
    go_wp2_with fail
    refine (rhalf_any A cap l _ hE2 hR.out).mono ?_
    rintro e w3 ⟨A3, c3, rfl, _, hN3, hB4⟩
    have hN4 := (hN2.below hB4).more hB4.size
    have hB5 := hB3.trans (hB4.mono hB3.size)
    clear hE2 hN2 hB3 hB4
    go_wp2_with fail
    refine (ints_same A1 A3 c1 c3 (half l) _ hN4 hN3 hlen).mono ?_
    rintro e w4 ⟨rfl, hB6⟩
    have hB7 := hB5.trans (hB6.mono hB5.size)
    go_wp2_with fail
    go_ret
    exact ⟨rfl, hB7⟩
  · have hr : (rcode l != 0) = true := by simp [h0]
    have h0H := Lib.hid h0
    have hEH := Lib.hid hE
    clear h0 hE
    go_enter Try.func4, Try.ntmps4
    go_wp2_with fail
    refine (rhf_no A cap l w hEH.out hc hs h0H.out).mono ?_
    rintro e w1 ⟨rfl, rfl⟩
    go_wp2_with fail
    refine (rrcheck_any A cap l _ hEH.out hs).mono ?_
    rintro e w2 ⟨rfl, hB2⟩
    go_wp2_with fail
    go_ret
    exact ⟨by simp, hB2⟩

#print axioms ringHalf_law
end Go.Proofs.Ytcmfpnghejapbaa
