/-
  The law TokenPlays: token.Play and the document's answer are alike.
-/
import Derived.Test.YtejckoffllhjcaaKpw
import Derived.Test.YtejckoffllhjcaaRkt
namespace Go.Proofs.Ytejckoffllhjcaa
open Go.RowKit Go.Maps

theorem tokenPlays_law (w : World) (A0 : Option Addr) (cap0 : Nat) (ul : List Int) (hE0 : Nums w w.heap.size A0 ul) (_hF0 : NumFits ul) (_hc0 : ul.length ≤ cap0) (hl0 : ul.length ≤ maxLen) (_hs0 : ul.length ≤ 17592186044416)
    (A : Option Addr) (cap : Nat) (l : List Mv) (hE : Mvs w w.heap.size A l) (hF : MFits l) (_hcap : l.length ≤ cap) (hl : l.length ≤ maxLen) (_hs : l.length ≤ 17592186044416) :
    Calls Try.prog 3 #[.slice A0 ul.length cap0, .slice A l.length cap] w fun e w' => e = .returned (.bool true) ∧ Below w.heap.size w w' := by
  by_cases h0 : checkK ul l.length = 0
  · exact kplays_ok w A0 cap0 ul hE0 hl0 A cap l hE hF hl h0 (fun W hU hM => rtk_ok A0 cap0 ul A cap l W hU hM hF h0)
  · exact kplays_no w A0 cap0 ul hE0 hl0 A cap l hl h0

#print axioms tokenPlays_law
end Go.Proofs.Ytejckoffllhjcaa
