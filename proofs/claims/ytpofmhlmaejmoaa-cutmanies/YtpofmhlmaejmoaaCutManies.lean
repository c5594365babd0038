/-
  The walk of the law CutManies: cut.Many and the document's count are alike.
-/
import Derived.Test.YtpofmhlmaejmoaaMan
import Derived.Test.YtpofmhlmaejmoaaRcu
import Derived.Test.YtpofmhlmaejmoaaRef
namespace Go.Proofs.Ytpofmhlmaejmoaa
open Go.RowKit Go.Maps

set_option maxHeartbeats 1000000 in
theorem cutmanies_no (w : World) (n : Int) (A : Option Addr) (cap : Nat) (l : List Ev) (hE : Evs w w.heap.size A l) (hF : Fits l) (hcap : l.length ≤ cap) (hl : l.length ≤ maxLen) (h0 : ¬ checkCode n l = 0) :
    Calls Try.prog 5 #[.int .i64 n, .slice A l.length cap] w fun e w' => e = .returned (.bool true) ∧ Below w.heap.size w w' := by
  have hr' : (checkCode n l != 0) = true := by simp [h0]
  have h0H := Lib.hid h0
  clear h0
  go_enter Try.func5, Try.ntmps5
  go_wp2_with fail
  refine (many_no A cap l n _ hE hF hl h0H.out).mono ?_
  rintro e w1 ⟨rfl, hB1⟩
  go_wp2_with fail
  refine (refcheck_any A cap l n _ ((hE.below hB1).more hB1.size) hcap hl).mono ?_
  rintro e w2 ⟨rfl, hB2'⟩
  have hB2 := hB1.trans (hB2'.mono hB1.size)
  go_wp2_with fail
  go_ret
  exact ⟨by simp, hB2⟩

set_option maxHeartbeats 1000000 in
theorem cutmanies_ok (w : World) (c : Nat) (A : Option Addr) (cap : Nat) (l : List Ev) (hE : Evs w w.heap.size A l) (hF : Fits l) (hcap : l.length ≤ cap) (hl : l.length ≤ maxLen) (h0 : checkCode (c : Int) l = 0) :
    Calls Try.prog 5 #[.int .i64 (c : Int), .slice A l.length cap] w fun e w' => e = .returned (.bool true) ∧ Below w.heap.size w w' := by
  have hr' : (checkCode (c : Int) l != 0) = false := by simp [h0]
  have h0H := Lib.hid h0
  clear h0
  have hmany := Lib.hid (many_ok A cap l c w hE hF h0H.out)
  have hcuts : Hid (∀ w', Evs w' w'.heap.size A l → Calls Try.prog 19 #[.int .i64 (c : Int), .slice A l.length cap, .slice none 0 0] w' fun e w'' => e = .returned (.int .i64 ((cutsL l c).length : Int)) ∧ Below w'.heap.size w' w'') := fun w' h => cuts_top A cap l c h0H.out w' h
  generalize (cutsL l c).length = N at *
  go_enter Try.func5, Try.ntmps5
  go_wp2_with fail
  refine hmany.out.mono ?_
  rintro e w1 ⟨rfl, hB1⟩
  go_wp2_with fail
  refine (refcheck_any A cap l (c : Int) _ ((hE.below hB1).more hB1.size) hcap hl).mono ?_
  rintro e w2 ⟨rfl, hB2'⟩
  have hB2 := hB1.trans (hB2'.mono hB1.size)
  clear hB1 hB2'
  go_wp2_with fail
  refine (hcuts.out _ ((hE.below hB2).more hB2.size)).mono ?_
  rintro e w3 ⟨rfl, hB3'⟩
  have hB3 := hB2.trans (hB3'.mono hB2.size)
  go_wp2_with fail
  go_ret
  exact ⟨by simp, hB3⟩

theorem cutManies_law (w : World) (n : Int) (_hn : I64 n) (A : Option Addr) (cap : Nat) (l : List Ev) (hE : Evs w w.heap.size A l) (hF : Fits l) (hcap : l.length ≤ cap) (hl : l.length ≤ maxLen) (_hs : l.length ≤ 17592186044416) :
    Calls Try.prog 5 #[.int .i64 n, .slice A l.length cap] w fun e w' => e = .returned (.bool true) ∧ Below w.heap.size w w' := by
  by_cases h0 : checkCode n l = 0
  · have hn := (check_small h0).1
    obtain ⟨c, rfl⟩ := Int.eq_ofNat_of_zero_le (show 0 ≤ n by omega)
    exact cutmanies_ok w c A cap l hE hF hcap hl h0
  · exact cutmanies_no w n A cap l hE hF hcap hl h0

#print axioms cutManies_law
end Go.Proofs.Ytpofmhlmaejmoaa
