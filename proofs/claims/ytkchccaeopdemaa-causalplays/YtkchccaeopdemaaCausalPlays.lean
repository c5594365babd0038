/-
  The law CausalPlays: causal.Play and the document's answer are alike.
-/
import Derived.Test.YtkchccaeopdemaaCpw
import Derived.Test.YtkchccaeopdemaaRca
namespace Go.Proofs.Ytkchccaeopdemaa
open Go.RowKit Go.Maps

theorem causalPlays_law (w : World) (n : Int) (_hn : I64 n) (A : Option Addr) (cap : Nat) (l : List Mv) (hE : Mvs w w.heap.size A l) (hF : MFits l) (_hcap : l.length ≤ cap) (hl : l.length ≤ maxLen) (_hs : l.length ≤ 17592186044416) :
    Calls Try.prog 3 #[.int .i64 n, .slice A l.length cap] w fun e w' => e = .returned (.bool true) ∧ Below w.heap.size w w' := by
  by_cases h0 : Plays n l.length
  · have h1 := h0.1
    obtain ⟨c, rfl⟩ := Int.eq_ofNat_of_zero_le (show 0 ≤ n by omega)
    exact cplays_ok w c A cap l hE hF h0 (fun W hW => rcausal_ok A cap l c W hW hF h0)
  · exact cplays_no w n A cap l hl h0

#print axioms causalPlays_law
end Go.Proofs.Ytkchccaeopdemaa
