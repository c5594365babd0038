/-
  The walk of the law VectorLess: vector.Less and the document's answer are alike.
-/
import Derived.Test.YtngagfoikpjpmaaVLs
import Derived.Test.YtngagfoikpjpmaaRVc
namespace Go.Proofs.Ytngagfoikpjpmaa
open Go.RowKit Go.Maps

set_option maxHeartbeats 1000000 in
theorem vectorLess_law (w : World) (A1 : Option Addr) (c1 : Nat) (a : List Int) (h1 : Nums w w.heap.size A1 a) (_hf1 : NumFits a) (_hc1 : a.length ≤ c1) (_hm1 : a.length ≤ maxLen) (hs1 : a.length ≤ 17592186044416) (A2 : Option Addr) (c2 : Nat) (b : List Int) (h2 : Nums w w.heap.size A2 b) (_hf2 : NumFits b) (_hc2 : b.length ≤ c2) (_hm2 : b.length ≤ maxLen) (hs2 : b.length ≤ 17592186044416) :
    Calls Try.prog 4 #[.slice A1 a.length c1, .slice A2 b.length c2] w fun e w' => e = .returned (.bool true) ∧ Below w.heap.size w w' := by
  by_cases h0 : vcode a b = 0
  · have hg := Lib.hid ((vcode_ok a b).1 h0)
    have h0H := Lib.hid h0
    clear h0
    have hC : Hid (lessB a b = true ↔ LessV a b) := lessB_iff a b
    generalize lessB a b = C at *
    go_enter Try.func4, Try.ntmps4
    go_wp2_with fail
    refine (vless_ok A1 A2 c1 c2 a b _ h1 h2 hg.out C hC).mono ?_
    rintro e w1 ⟨rfl, hB1⟩
    go_wp2_with fail
    refine (rvcheck_any A1 A2 c1 c2 a b _ ((h1.below hB1).more hB1.size) ((h2.below hB1).more hB1.size) hs1 hs2).mono ?_
    rintro e w2 ⟨rfl, hB2'⟩
    have hB2 := hB1.trans (hB2'.mono hB1.size)
    clear hB2' hB1
    rw [h0H.out]
    go_wp2_with fail
    refine (rless_ok A1 A2 c1 c2 a b _ ((h1.below hB2).more hB2.size) ((h2.below hB2).more hB2.size) hg.out C hC).mono ?_
    rintro e w3 ⟨rfl, hB3'⟩
    have hB3 := hB2.trans (hB3'.mono hB2.size)
    go_wp2_with fail
    go_ret
    exact ⟨by simp, hB3⟩
  · have hr : (vcode a b != 0) = true := by simp [h0]
    have h0H := Lib.hid h0
    clear h0
    go_enter Try.func4, Try.ntmps4
    go_wp2_with fail
    refine (vless_no A1 A2 c1 c2 a b _ h1 h2 hs1 hs2 h0H.out).mono ?_
    rintro e w1 ⟨rfl, hB1⟩
    go_wp2_with fail
    refine (rvcheck_any A1 A2 c1 c2 a b _ ((h1.below hB1).more hB1.size) ((h2.below hB1).more hB1.size) hs1 hs2).mono ?_
    rintro e w2 ⟨rfl, hB2'⟩
    have hB2 := hB1.trans (hB2'.mono hB1.size)
    go_wp2_with fail
    go_ret
    exact ⟨by simp, hB2⟩

#print axioms vectorLess_law
end Go.Proofs.Ytngagfoikpjpmaa
