/-
  The law EchoPlays, walked.
-/
import Derived.Test.YtjmkmfeibempjaaRch
import Derived.Test.YtjmkmfeibempjaaEpw
namespace Go.Proofs.Ytjmkmfeibempjaa
open Go.RowKit Go.Maps

theorem echoPlays_law (w : World) (n : Int) (_hn : I64 n) (A : Option Addr) (cap : Nat) (l : List Lk) (hE : Lks w w.heap.size A l) (_hF : LFits l) (hc : l.length ≤ cap) (_hlm : l.length ≤ maxLen) (hl : l.length ≤ 17592186044416)
    (s : Int) (_hs : I64 s) (A2 : Option Addr) (cap2 : Nat) (o : List Int) (hE2 : Nums w w.heap.size A2 o) (hF2 : NumFits o) (_hc2 : o.length ≤ cap2) (_hom : o.length ≤ maxLen) (ho : o.length ≤ 17592186044416) :
    Calls Try.prog 3 #[.int .i64 n, .slice A l.length cap, .int .i64 s, .slice A2 o.length cap2] w fun e w' => e = .returned (.bool true) ∧ Below w.heap.size w w' := by
  refine echoPlays_walk A cap l A2 cap2 o n s w hE hc hl hE2 hF2 ho fun nn ss w1 hn hs hz hE1 hE3 => ?_
  subst hn hs
  obtain ⟨hsm, h60, hLO, hins, hOnce⟩ := ecode_zero hz
  have hss : ss < nn := by have := (inP_iff _ _).1 hins; omega
  refine (rch_ok A cap l A2 cap2 o nn ss w1 hE1 hE3 hF2 (by unfold LargeL at hsm; omega) (by unfold LargeL at hsm; omega) hss h60 hLO.lk hOnce).mono ?_
  exact fun _ _ h => h
#print axioms echoPlays_law
end Go.Proofs.Ytjmkmfeibempjaa
