/-
  The law TurnPlays: turn.Play and the document's answer are alike.
-/
import Derived.Test.YthnmppajakdcaaaTpw
import Derived.Test.YthnmppajakdcaaaRtu
namespace Go.Proofs.Ythnmppajakdcaaa
open Go.RowKit Go.Maps

theorem turnPlays_law (w : World) (n : Int) (_hn : I64 n) (A : Option Addr) (cap : Nat) (l : List Mv) (hE : Mvs w w.heap.size A l) (hF : MFits l) (_hcap : l.length ≤ cap) (hl : l.length ≤ maxLen) (_hs : l.length ≤ 17592186044416) :
    Calls Try.prog 3 #[.int .i64 n, .slice A l.length cap] w fun e w' => e = .returned (.bool true) ∧ Below w.heap.size w w' := by
  by_cases h0 : Plays n l.length
  · have h1 := h0.1
    have h2 := h0.2.1
    have h3 := h0.2.2
    obtain ⟨c, rfl⟩ := Int.eq_ofNat_of_zero_le (show 0 ≤ n by omega)
    exact tplays_ok w c A cap l hE hF h0 (fun W hW => rtu_ok A cap l c W hW hF (by omega) (by omega) (by omega))
  · exact tplays_no w n A cap l hl h0

#print axioms turnPlays_law
end Go.Proofs.Ythnmppajakdcaaa
