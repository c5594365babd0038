/-
  The walk of the law TickLongests: tick.Longest and the document's chain are alike.
-/
import Derived.Test.YtiokfehckhbnaaaLng
import Derived.Test.YtiokfehckhbnaaaRlg
import Derived.Test.YtiokfehckhbnaaaRef
import Derived.Test.YtiokfehckhbnaaaInt
namespace Go.Proofs.Ytiokfehckhbnaaa
open Go.RowKit Go.Maps

set_option maxHeartbeats 1000000 in
theorem ticklongests_no (w : World) (n : Int) (A : Option Addr) (cap : Nat) (l : List Ev) (hE : Evs w w.heap.size A l) (hF : Fits l) (hcap : l.length ≤ cap) (hl : l.length ≤ maxLen) (h0 : ¬ checkCode n l = 0) :
    Calls Try.prog 5 #[.int .i64 n, .slice A l.length cap] w fun e w' => e = .returned (.bool true) ∧ Below w.heap.size w w' := by
  have hr : (checkCode n l == 0) = false := by simp [h0]
  have hr' : (checkCode n l != 0) = true := by simp [h0]
  have h0H := Lib.hid h0
  clear h0
  go_enter Try.func5, Try.ntmps5
  go_wp2_with fail
  refine (tlongest_no A cap l n _ hE hF hl h0H.out).mono ?_
  rintro e w1 ⟨rfl, hB1⟩
  go_wp2_with fail
  refine (refcheck_any A cap l n _ ((hE.below hB1).more hB1.size) hcap hl).mono ?_
  rintro e w2 ⟨rfl, hB2'⟩
  have hB2 := hB1.trans (hB2'.mono hB1.size)
  go_wp2_with fail
  go_ret
  exact ⟨by simp, hB2⟩

set_option maxHeartbeats 1000000 in
theorem ticklongests_ok (w : World) (n : Int) (A : Option Addr) (cap : Nat) (l : List Ev) (hE : Evs w w.heap.size A l) (hF : Fits l) (hcap : l.length ≤ cap) (h0 : checkCode n l = 0) :
    Calls Try.prog 5 #[.int .i64 n, .slice A l.length cap] w fun e w' => e = .returned (.bool true) ∧ Below w.heap.size w w' := by
  have h30 := (check_small h0).2.2
  have hl : l.length ≤ maxLen := by unfold maxLen; omega
  have hr : (checkCode n l != 0) = false := by simp [h0]
  have h0H := Lib.hid h0
  clear h0
  go_enter Try.func5, Try.ntmps5
  go_wp2_with fail
  refine (tlongest_ok A cap l n _ hE hF h0H.out).mono ?_
  rintro e w1 ⟨A1, c1, out1, D1, M1, rfl, hD1, hM1, hMl1, hC1, hl1, hN1, hB1⟩
  have hlen : out1.length ≤ 30 := by omega
  have hl1H := Lib.hid hl1
  clear hl1
  go_wp2_with fail
  refine (refcheck_any A cap l n _ ((hE.below hB1).more hB1.size) hcap hl).mono ?_
  rintro e w2 ⟨rfl, hB2'⟩
  have hN2 := (hN1.below hB2').more hB2'.size
  have hB2 := hB1.trans (hB2'.mono hB1.size)
  clear hB2' hB1 hN1
  go_wp2_with fail
  refine (reflongest_any A cap l _ ((hE.below hB2).more hB2.size) h30).mono ?_
  rintro e w3 ⟨A3, c3, out3, D3, M3, rfl, hD3, hM3, hC3, hl3, hN3, hB3'⟩
  have hN4 := (hN2.below hB3').more hB3'.size
  have hB3 := hB2.trans (hB3'.mono hB2.size)
  have hDD : ∀ i, i < l.length → D1 i = D3 i := fun i hi => Rank.same (fun a b _ h => h.lt.2) hD1 hD3 hi
  have hMM : M1 = M3 := hM1.same hM3 hDD
  have hout : out1 = out3 := by
    subst hMM
    exact hC1.same hDD hC3 (by rw [hl1H.out, hl3])
  subst hout
  have hint := ints_same A1 A3 c1 c3 _ w3 hN4 hN3 (by rw [List.length_map]; omega)
  rw [List.length_map] at hint
  clear hB3' hB2 hN2 hD1 hD3 hM1 hM3 hC1 hC3 hN4 hN3 hDD hl3 hMM
  go_wp2_with fail
  refine hint.mono ?_
  rintro e w4 ⟨rfl, hB4'⟩
  have hB4 := hB3.trans (hB4'.mono hB3.size)
  go_wp2_with fail
  go_ret
  exact ⟨rfl, hB4⟩

theorem tickLongests_law (w : World) (n : Int) (_hn : I64 n) (A : Option Addr) (cap : Nat) (l : List Ev) (hE : Evs w w.heap.size A l) (hF : Fits l) (hcap : l.length ≤ cap) (hl : l.length ≤ maxLen) (_hs : l.length ≤ 17592186044416) :
    Calls Try.prog 5 #[.int .i64 n, .slice A l.length cap] w fun e w' => e = .returned (.bool true) ∧ Below w.heap.size w w' := by
  by_cases h0 : checkCode n l = 0
  · exact ticklongests_ok w n A cap l hE hF hcap h0
  · exact ticklongests_no w n A cap l hE hF hcap hl h0

#print axioms tickLongests_law
end Go.Proofs.Ytiokfehckhbnaaa
