/-
  The contract of beaconrylaw.cutCode.
-/
import Derived.Test.YtpofmhlmaejmoaaCck
import Derived.Test.YtpofmhlmaejmoaaInn
import Derived.Test.YtpofmhlmaejmoaaRef
namespace Go.Proofs.Ytpofmhlmaejmoaa
open Go.RowKit Go.Maps

set_option maxHeartbeats 600000 in
theorem cutcode_any (A Ac : Option Addr) (cap capc : Nat) (l : List Ev) (n : Int) (cv : List Int) (w : World) (hE : Evs w w.heap.size A l) (hcap : l.length ≤ cap) (hl : l.length ≤ maxLen) (hN : Nums w w.heap.size Ac cv) :
    Calls Try.prog 12 #[.int .i64 n, .slice A l.length cap, .slice Ac cv.length capc] w fun e w' => e = .returned (.int .i64 (cutC n l cv)) ∧ Below w.heap.size w w' := by
  by_cases h0 : checkCode n l = 0
  · have hn := (check_small h0).1
    obtain ⟨c, rfl⟩ := Int.eq_ofNat_of_zero_le (show 0 ≤ n by omega)
    have hb0 : (checkCode (c : Int) l == 0) = true := by simp [h0]
    by_cases h2 : (cv.length : Int) = (c : Int)
    · have h3 : cv.length = c := by omega
      have hc4 : Hid (cutC (c : Int) l cv = if rangedB l c (vat cv) = true then 0 else 4) := by
        unfold Hid cutC
        rw [if_neg (by simp [h0]), if_neg (by simp; omega), h3]
      have h0H := Lib.hid h0
      have hb1 : ((cv.length : Int) != (c : Int)) = false := by simp; omega
      have hb2 : (cv.length != c) = false := by simp; omega
      have h3H := Lib.hid h3
      clear h0 h2 h3
      go_enter Try.func12, Try.ntmps12
      go_wp2_with fail
      refine (refcheck_any A cap l (c : Int) _ hE hcap hl).mono ?_
      rintro e w1 ⟨rfl, hB1⟩
      go_wp2_with fail
      refine (in_any A Ac cap capc l c cv w1 ((hE.below hB1).more hB1.size) ((hN.below hB1).more hB1.size) h3H.out h0H.out).mono ?_
      intro e w2 h
      rcases h with ⟨hr, g, rfl, _, hB2'⟩ | ⟨hr, rfl, hB2'⟩
      · have hB2 := hB1.trans (hB2'.mono hB1.size)
        go_wp2_with fail
        go_ret
        exact ⟨by show Ending.returned (.int .i64 (checkCode (c : Int) l)) = _; rw [hc4.out, if_pos ((rangedB_iff _ _ _).2 hr), h0H.out], hB2⟩
      · have hB2 := hB1.trans (hB2'.mono hB1.size)
        go_wp2_with fail
        go_ret
        exact ⟨by rw [hc4.out, if_neg (fun h => hr ((rangedB_iff _ _ _).1 h))]; rfl, hB2⟩
    · have hc3 : Hid (cutC (c : Int) l cv = 3) := by
        unfold Hid cutC
        rw [if_neg (by simp [h0]), if_pos h2]
      have hb1 : ((cv.length : Int) != (c : Int)) = true := by simp; omega
      have hb2 : (cv.length != c) = true := by simp; omega
      have hb3 : ¬ (cv.length = c) := by omega
      go_enter Try.func12, Try.ntmps12
      go_wp2_with fail
      refine (refcheck_any A cap l (c : Int) _ hE hcap hl).mono ?_
      rintro e w1 ⟨rfl, hB1⟩
      go_wp2_with fail
      go_ret
      exact ⟨by rw [hc3.out]; rfl, hB1⟩
  · have hc0 : Hid (cutC n l cv = checkCode n l) := by
      unfold Hid cutC
      rw [if_pos h0]
    have hb0 : (checkCode n l == 0) = false := by simp [h0]
    have h0H := Lib.hid h0
    clear h0
    go_enter Try.func12, Try.ntmps12
    go_wp2_with fail
    refine (refcheck_any A cap l n _ hE hcap hl).mono ?_
    rintro e w1 ⟨rfl, hB1⟩
    go_wp2_with fail
    go_ret
    exact ⟨by rw [hc0.out]; rfl, hB1⟩

#print axioms cutcode_any
end Go.Proofs.Ytpofmhlmaejmoaa
