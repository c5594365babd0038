/-
  The walk of the law CutIs: cut.Is and the document's answer are alike.
-/
import Derived.Test.YtpofmhlmaejmoaaCcd
import Derived.Test.YtpofmhlmaejmoaaWho
namespace Go.Proofs.Ytpofmhlmaejmoaa
open Go.RowKit Go.Maps

set_option maxHeartbeats 1000000 in
theorem cutis_bad (w : World) (n : Int) (A : Option Addr) (cap : Nat) (l : List Ev) (hE : Evs w w.heap.size A l) (hF : Fits l) (hcap : l.length ≤ cap) (hl : l.length ≤ maxLen) (Ac : Option Addr) (capc : Nat) (cv : List Int) (hN : Nums w w.heap.size Ac cv) (h0 : ¬ cutC n l cv = 0) :
    Calls Try.prog 3 #[.int .i64 n, .slice A l.length cap, .slice Ac cv.length capc] w fun e w' => e = .returned (.bool true) ∧ Below w.heap.size w w' := by
  have hr' : (cutC n l cv != 0) = true := by simp [h0]
  have h0H := Lib.hid h0
  clear h0
  go_enter Try.func3, Try.ntmps3
  go_wp2_with fail
  refine (is_bad A Ac cap capc l n cv _ hE hF hl hN h0H.out).mono ?_
  rintro e w1 ⟨rfl, hB1⟩
  go_wp2_with fail
  refine (cutcode_any A Ac cap capc l n cv _ ((hE.below hB1).more hB1.size) hcap hl ((hN.below hB1).more hB1.size)).mono ?_
  rintro e w2 ⟨rfl, hB2'⟩
  have hB2 := hB1.trans (hB2'.mono hB1.size)
  go_wp2_with fail
  go_ret
  exact ⟨by simp, hB2⟩

theorem wholeS_iff (l : List Ev) (F : Nat → Int) : WholeS l (inC l F) ↔ WholeC l F := Iff.rfl

set_option maxHeartbeats 1000000 in
theorem cutis_ok (w : World) (c : Nat) (A : Option Addr) (cap : Nat) (l : List Ev) (hE : Evs w w.heap.size A l) (hF : Fits l) (hcap : l.length ≤ cap) (hl : l.length ≤ maxLen) (Ac : Option Addr) (capc : Nat) (cv : List Int) (hN : Nums w w.heap.size Ac cv) (h0 : cutC (c : Int) l cv = 0) (C : Bool) (hC : Hid (C = true ↔ WholeC l (vat cv))) :
    Calls Try.prog 3 #[.int .i64 (c : Int), .slice A l.length cap, .slice Ac cv.length capc] w fun e w' => e = .returned (.bool true) ∧ Below w.heap.size w w' := by
  have hr' : (cutC (c : Int) l cv != 0) = false := by simp [h0]
  obtain ⟨h1, h2, h3⟩ := cutC_ok.1 h0
  have h30 := (check_small h1).2.2
  have h4 : cv.length = c := by omega
  rw [h4] at h3
  have h1H := Lib.hid h1
  have h3H := Lib.hid h3
  have h4H := Lib.hid h4
  have h0H := Lib.hid h0
  clear h0 h1 h2 h3 h4
  go_enter Try.func3, Try.ntmps3
  go_wp2_with fail
  refine (is_ok A Ac cap capc l c cv _ hE hF hN h0H.out C hC).mono ?_
  rintro e w1 ⟨rfl, hB1⟩
  go_wp2_with fail
  refine (cutcode_any A Ac cap capc l (c : Int) cv _ ((hE.below hB1).more hB1.size) hcap hl ((hN.below hB1).more hB1.size)).mono ?_
  rintro e w2 ⟨rfl, hB2'⟩
  have hB2 := hB1.trans (hB2'.mono hB1.size)
  clear hB1 hB2'
  go_wp2_with fail
  refine (in_any A Ac cap capc l c cv _ ((hE.below hB2).more hB2.size) ((hN.below hB2).more hB2.size) h4H.out h1H.out).mono ?_
  intro e w3 h
  rcases h with ⟨_, g, rfl, hR, hB3'⟩ | ⟨hr, _⟩
  · have hB3 := hB2.trans (hB3'.mono hB2.size)
    clear hB2 hB3'
    go_wp2_with fail
    refine (whole_any A cap l g (inC l (vat cv)) _ ((hE.below hB3).more hB3.size) h30 hR C hC).mono ?_
    rintro e w4 ⟨rfl, hB4'⟩
    have hB4 := hB3.trans (hB4'.mono hB3.size)
    go_wp2_with fail
    go_ret
    exact ⟨by simp, hB4⟩
  · exact absurd h3H.out hr

theorem cutIs_law (w : World) (n : Int) (_hn : I64 n) (A : Option Addr) (cap : Nat) (l : List Ev) (hE : Evs w w.heap.size A l) (hF : Fits l) (hcap : l.length ≤ cap) (hl : l.length ≤ maxLen) (_hs : l.length ≤ 17592186044416) (Ac : Option Addr) (capc : Nat) (cv : List Int) (hN : Nums w w.heap.size Ac cv) (_hNF : NumFits cv) (_hcapc : cv.length ≤ capc) (_hlc : cv.length ≤ maxLen) (_hsc : cv.length ≤ 17592186044416) :
    Calls Try.prog 3 #[.int .i64 n, .slice A l.length cap, .slice Ac cv.length capc] w fun e w' => e = .returned (.bool true) ∧ Below w.heap.size w w' := by
  by_cases h0 : cutC n l cv = 0
  · have hn := (check_small (cutC_ok.1 h0).1).1
    obtain ⟨c, rfl⟩ := Int.eq_ofNat_of_zero_le (show 0 ≤ n by omega)
    by_cases hw : WholeC l (vat cv)
    · exact cutis_ok w c A cap l hE hF hcap hl Ac capc cv hN h0 true (Lib.hid ⟨fun _ => hw, fun _ => rfl⟩)
    · exact cutis_ok w c A cap l hE hF hcap hl Ac capc cv hN h0 false (Lib.hid ⟨fun h => absurd h (by decide), fun h => absurd h hw⟩)
  · exact cutis_bad w n A cap l hE hF hcap hl Ac capc cv hN h0

#print axioms cutIs_law
end Go.Proofs.Ytpofmhlmaejmoaa
