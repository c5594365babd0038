/-
  The walk of the law CutLeasts: cut.Least and the document's vector are alike.
-/
import Derived.Test.YtpofmhlmaejmoaaLst
import Derived.Test.YtpofmhlmaejmoaaRVe
import Derived.Test.YtpofmhlmaejmoaaRef
import Derived.Test.YtpofmhlmaejmoaaInt
namespace Go.Proofs.Ytpofmhlmaejmoaa
open Go.RowKit Go.Maps

set_option maxHeartbeats 1000000 in
theorem cutleasts_no (w : World) (n : Int) (A : Option Addr) (cap : Nat) (l : List Ev) (hE : Evs w w.heap.size A l) (hF : Fits l) (hcap : l.length ≤ cap) (hl : l.length ≤ maxLen) (i : Int) (h0 : ¬ checkCode n l = 0) :
    Calls Try.prog 6 #[.int .i64 n, .slice A l.length cap, .int .i64 i] w fun e w' => e = .returned (.bool true) ∧ Below w.heap.size w w' := by
  have hr : (checkCode n l == 0) = false := by simp [h0]
  have hr' : (checkCode n l != 0) = true := by simp [h0]
  have h0H := Lib.hid h0
  clear h0
  go_enter Try.func6, Try.ntmps6
  go_wp2_with fail
  refine (least_no A cap l n i _ hE hF hl h0H.out).mono ?_
  rintro e w1 ⟨rfl, hB1⟩
  go_wp2_with fail
  refine (refcheck_any A cap l n _ ((hE.below hB1).more hB1.size) hcap hl).mono ?_
  rintro e w2 ⟨rfl, hB2'⟩
  have hB2 := hB1.trans (hB2'.mono hB1.size)
  go_wp2_with fail
  go_ret
  exact ⟨by simp, hB2⟩

set_option maxHeartbeats 1000000 in
theorem cutleasts_out (w : World) (c : Nat) (A : Option Addr) (cap : Nat) (l : List Ev) (hE : Evs w w.heap.size A l) (hF : Fits l) (hcap : l.length ≤ cap) (hl : l.length ≤ maxLen) (i : Int) (h0 : checkCode (c : Int) l = 0) (hi : ¬ (0 ≤ i ∧ i < l.length)) :
    Calls Try.prog 6 #[.int .i64 (c : Int), .slice A l.length cap, .int .i64 i] w fun e w' => e = .returned (.bool true) ∧ Below w.heap.size w w' := by
  have hr : (checkCode (c : Int) l == 0) = true := by simp [h0]
  have hiH := Lib.hid hi
  have h0H := Lib.hid h0
  clear h0 hi
  by_cases h1 : i < 0
  · go_enter Try.func6, Try.ntmps6
    go_wp2_with fail
    refine (least_out A cap l c i _ hE hF h0H.out hiH.out).mono ?_
    rintro e w1 ⟨rfl, hB1⟩
    go_wp2_with fail
    refine (refcheck_any A cap l (c : Int) _ ((hE.below hB1).more hB1.size) hcap hl).mono ?_
    rintro e w2 ⟨rfl, hB2'⟩
    have hB2 := hB1.trans (hB2'.mono hB1.size)
    go_wp2_with fail
    go_ret
    exact ⟨by simp, hB2⟩
  · have h2 : (l.length : Int) ≤ i := by have := hiH.out; omega
    go_enter Try.func6, Try.ntmps6
    go_wp2_with fail
    refine (least_out A cap l c i _ hE hF h0H.out hiH.out).mono ?_
    rintro e w1 ⟨rfl, hB1⟩
    go_wp2_with fail
    refine (refcheck_any A cap l (c : Int) _ ((hE.below hB1).more hB1.size) hcap hl).mono ?_
    rintro e w2 ⟨rfl, hB2'⟩
    have hB2 := hB1.trans (hB2'.mono hB1.size)
    go_wp2_with fail
    go_ret
    exact ⟨by simp, hB2⟩

set_option maxHeartbeats 2000000 in
theorem cutleasts_in (w : World) (c : Nat) (A : Option Addr) (cap : Nat) (l : List Ev) (hE : Evs w w.heap.size A l) (hF : Fits l) (hcap : l.length ≤ cap) (hl : l.length ≤ maxLen) (i : Nat) (h0 : checkCode (c : Int) l = 0) (hi : i < l.length) :
    Calls Try.prog 6 #[.int .i64 (c : Int), .slice A l.length cap, .int .i64 (i : Int)] w fun e w' => e = .returned (.bool true) ∧ Below w.heap.size w w' := by
  have hr : (checkCode (c : Int) l == 0) = true := by simp [h0]
  have hr' : (checkCode (c : Int) l != 0) = false := by simp [h0]
  have h30 := (check_small h0).2.2
  have hc6 := (check_small h0).2.1
  have h0H := Lib.hid h0
  clear h0
  have hiI : (i : Int) < (l.length : Int) := by omega
  go_enter Try.func6, Try.ntmps6
  go_wp2_with fail
  refine (least_ok A cap l c i _ hE hF h0H.out hi).mono ?_
  rintro e w1 ⟨g, rfl, hN1, hB1⟩
  go_wp2_with fail
  refine (refcheck_any A cap l (c : Int) _ ((hE.below hB1).more hB1.size) hcap hl).mono ?_
  rintro e w2 ⟨rfl, hB2'⟩
  have hN2 := (hN1.below hB2').more hB2'.size
  have hB2 := hB1.trans (hB2'.mono hB1.size)
  clear hB2' hB1 hN1
  go_wp2_with fail
  refine (table_any A cap l _ ((hE.below hB2).more hB2.size) h30).mono ?_
  rintro e w3 h
  obtain ⟨rfl, gt, f, hT, hf, hB3'⟩ := h
  have hN3 := (hN2.below hB3').more hB3'.size
  have hB3 := hB2.trans (hB3'.mono hB2.size)
  have hfH := Lib.hid hf
  generalize w2.heap.size = TT at *
  clear hB3' hB2 hN2 hf
  go_wp2_with fail
  refine (rvector_ok A cap l c i _ TT TT gt f ((hE.below hB3).more hB3.size) h0H.out hT hfH hi).mono ?_
  rintro e w4 ⟨g4, rfl, hN4, hB4'⟩
  have hN5 := (hN3.below hB4').more hB4'.size
  have hB4 := hB3.trans (hB4'.mono hB3.size)
  clear hB3 hB4' hN3 hT hfH
  have hcall := ints_same (some ⟨g, 0, none⟩) (some ⟨g4, 0, none⟩) c c (vlist l c i) w4 hN5 hN4 (by rw [vlist_len]; omega)
  rw [vlist_len] at hcall
  go_wp2_with fail
  refine hcall.mono ?_
  rintro e w5 ⟨rfl, hB5'⟩
  have hB5 := hB4.trans (hB5'.mono hB4.size)
  go_wp2_with fail
  go_ret
  exact ⟨rfl, hB5⟩

theorem cutLeasts_law (w : World) (n : Int) (_hn : I64 n) (A : Option Addr) (cap : Nat) (l : List Ev) (hE : Evs w w.heap.size A l) (hF : Fits l) (hcap : l.length ≤ cap) (hl : l.length ≤ maxLen) (_hs : l.length ≤ 17592186044416) (i : Int) (_hi : I64 i) :
    Calls Try.prog 6 #[.int .i64 n, .slice A l.length cap, .int .i64 i] w fun e w' => e = .returned (.bool true) ∧ Below w.heap.size w w' := by
  by_cases h0 : checkCode n l = 0
  · have hn := (check_small h0).1
    obtain ⟨c, rfl⟩ := Int.eq_ofNat_of_zero_le (show 0 ≤ n by omega)
    by_cases hi : 0 ≤ i ∧ i < l.length
    · obtain ⟨x, rfl⟩ := Int.eq_ofNat_of_zero_le hi.1
      exact cutleasts_in w c A cap l hE hF hcap hl x h0 (by omega)
    · exact cutleasts_out w c A cap l hE hF hcap hl i h0 hi
  · exact cutleasts_no w n A cap l hE hF hcap hl i h0

#print axioms cutLeasts_law
end Go.Proofs.Ytpofmhlmaejmoaa
