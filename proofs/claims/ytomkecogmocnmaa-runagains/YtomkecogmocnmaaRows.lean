/-
  No cell of these rows narrows 'for every input' (looked for: loops, veiled, ifaces, maps, wideKeys, modest, calm, conditions, laid).
  DERIVED. THE GIVEN ROWS OF THIS SEAT. 8 by the template 'for every input the law returns true; each argument reads behind the call as it read before'; 0 by the template 'total and deterministic' (their statements: YtomkecogmocnmaaTotals.lean).
  GIVEN WITH THE SEED: the statements are not yours to turn. If you find one false, say at which input.
  Laid BY PROGRAM, IN A SANDBOX (cutbox-rows.mjs): the forced cells as the released guide's own fill.sh prints them over the translation e48a8d45ab6765e7… (all of the seat's roots in one cut). By AI agents, Wed Nov 11 2026. No macro, syntax, notation, axiom, sorry.
-/
import Derived.Test.YtomkecogmocnmaaChecked
import GoSem.Claim
import GoSem.ClaimJoined
import GoSem.ClaimMapViews
import Derived.JoinedTies
import Derived.KernelRfl
namespace Go.Proofs.Ytomkecogmocnmaa
/- THE CELL 'sum', in the pinned program and in every row, IS THE sha256 OF THE DUMP (.gsa) THAT YtomkecogmocnmaaProg.lean LOADS. Nothing in Lean hashes anything: it is a label: what it is worth is what the hold of that sum in a sandbox is worth. -/
noncomputable def Try.pinned : Pinned := { name := "ytomkecogmocnmaa", sum := "e48a8d45ab6765e7d8509b8c0ec17664dc531c8eed013aa1f8bad8a2aab5a40d", checked := Try.checked }
namespace Rows
def none {H : Type} : Left H := { results := [], args := [] }

/-- 'beaconrylaw.RunChecks': WHATEVER THE INPUT: true; the input reads as it did. -/
def runChecksSpec : ChangeSpec := { name := "runChecks", fn := fun _ => fun
  | [d1, d2] => { results := [.lit (.bool true)], args := [d1, d2] }
  | _ => none }
def runChecksRow : OpenClaim := { program := "ytomkecogmocnmaa", sum := "e48a8d45ab6765e7d8509b8c0ec17664dc531c8eed013aa1f8bad8a2aab5a40d", func := "beaconry/beaconrylaw.RunChecks", spec := "runChecks", apart := false }
def RunChecksSaid : Prop := runChecksRow.holds Try.pinned (OpenSpec.ofChange runChecksSpec)

/-- ITS FALSE NEIGHBOUR: 'it returns false'. Refute it at one input. -/
def runChecksWrong : ChangeSpec := { name := "runChecks", fn := fun _ => fun
  | [d1, d2] => { results := [.lit (.bool false)], args := [d1, d2] }
  | _ => none }
def RunChecksWrongFalsely : Prop := runChecksRow.holds Try.pinned (OpenSpec.ofChange runChecksWrong)

/-- 'beaconrylaw.RunAheads': WHATEVER THE INPUT: true; the input reads as it did. -/
def runAheadsSpec : ChangeSpec := { name := "runAheads", fn := fun _ => fun
  | [d1, d2, d3, d4] => { results := [.lit (.bool true)], args := [d1, d2, d3, d4] }
  | _ => none }
def runAheadsRow : OpenClaim := { program := "ytomkecogmocnmaa", sum := "e48a8d45ab6765e7d8509b8c0ec17664dc531c8eed013aa1f8bad8a2aab5a40d", func := "beaconry/beaconrylaw.RunAheads", spec := "runAheads", apart := false }
def RunAheadsSaid : Prop := runAheadsRow.holds Try.pinned (OpenSpec.ofChange runAheadsSpec)

/-- ITS FALSE NEIGHBOUR: 'it returns false'. Refute it at one input. -/
def runAheadsWrong : ChangeSpec := { name := "runAheads", fn := fun _ => fun
  | [d1, d2, d3, d4] => { results := [.lit (.bool false)], args := [d1, d2, d3, d4] }
  | _ => none }
def RunAheadsWrongFalsely : Prop := runAheadsRow.holds Try.pinned (OpenSpec.ofChange runAheadsWrong)

/-- 'beaconrylaw.RunAparts': WHATEVER THE INPUT: true; the input reads as it did. -/
def runApartsSpec : ChangeSpec := { name := "runAparts", fn := fun _ => fun
  | [d1, d2] => { results := [.lit (.bool true)], args := [d1, d2] }
  | _ => none }
def runApartsRow : OpenClaim := { program := "ytomkecogmocnmaa", sum := "e48a8d45ab6765e7d8509b8c0ec17664dc531c8eed013aa1f8bad8a2aab5a40d", func := "beaconry/beaconrylaw.RunAparts", spec := "runAparts", apart := false }
def RunApartsSaid : Prop := runApartsRow.holds Try.pinned (OpenSpec.ofChange runApartsSpec)

/-- ITS FALSE NEIGHBOUR: 'it returns false'. Refute it at one input. -/
def runApartsWrong : ChangeSpec := { name := "runAparts", fn := fun _ => fun
  | [d1, d2] => { results := [.lit (.bool false)], args := [d1, d2] }
  | _ => none }
def RunApartsWrongFalsely : Prop := runApartsRow.holds Try.pinned (OpenSpec.ofChange runApartsWrong)

/-- 'beaconrylaw.RunAgains': WHATEVER THE INPUT: true; the input reads as it did. -/
def runAgainsSpec : ChangeSpec := { name := "runAgains", fn := fun _ => fun
  | [d1, d2, d3] => { results := [.lit (.bool true)], args := [d1, d2, d3] }
  | _ => none }
def runAgainsRow : OpenClaim := { program := "ytomkecogmocnmaa", sum := "e48a8d45ab6765e7d8509b8c0ec17664dc531c8eed013aa1f8bad8a2aab5a40d", func := "beaconry/beaconrylaw.RunAgains", spec := "runAgains", apart := false }
def RunAgainsSaid : Prop := runAgainsRow.holds Try.pinned (OpenSpec.ofChange runAgainsSpec)

/-- ITS FALSE NEIGHBOUR: 'it returns false'. Refute it at one input. -/
def runAgainsWrong : ChangeSpec := { name := "runAgains", fn := fun _ => fun
  | [d1, d2, d3] => { results := [.lit (.bool false)], args := [d1, d2, d3] }
  | _ => none }
def RunAgainsWrongFalsely : Prop := runAgainsRow.holds Try.pinned (OpenSpec.ofChange runAgainsWrong)

/-- 'beaconrykeep.RunTrans': WHATEVER THE INPUT: true; the input reads as it did. -/
def runTransSpec : ChangeSpec := { name := "runTrans", fn := fun _ => fun
  | [d1, d2, d3, d4, d5] => { results := [.lit (.bool true)], args := [d1, d2, d3, d4, d5] }
  | _ => none }
def runTransRow : OpenClaim := { program := "ytomkecogmocnmaa", sum := "e48a8d45ab6765e7d8509b8c0ec17664dc531c8eed013aa1f8bad8a2aab5a40d", func := "beaconry/beaconrykeep.RunTrans", spec := "runTrans", apart := false }
def RunTransSaid : Prop := runTransRow.holds Try.pinned (OpenSpec.ofChange runTransSpec)

/-- ITS FALSE NEIGHBOUR: 'it returns false'. Refute it at one input. -/
def runTransWrong : ChangeSpec := { name := "runTrans", fn := fun _ => fun
  | [d1, d2, d3, d4, d5] => { results := [.lit (.bool false)], args := [d1, d2, d3, d4, d5] }
  | _ => none }
def RunTransWrongFalsely : Prop := runTransRow.holds Try.pinned (OpenSpec.ofChange runTransWrong)

/-- 'beaconrykeep.RunFirst': WHATEVER THE INPUT: true; the input reads as it did. -/
def runFirstSpec : ChangeSpec := { name := "runFirst", fn := fun _ => fun
  | [d1, d2, d3, d4, d5] => { results := [.lit (.bool true)], args := [d1, d2, d3, d4, d5] }
  | _ => none }
def runFirstRow : OpenClaim := { program := "ytomkecogmocnmaa", sum := "e48a8d45ab6765e7d8509b8c0ec17664dc531c8eed013aa1f8bad8a2aab5a40d", func := "beaconry/beaconrykeep.RunFirst", spec := "runFirst", apart := false }
def RunFirstSaid : Prop := runFirstRow.holds Try.pinned (OpenSpec.ofChange runFirstSpec)

/-- ITS FALSE NEIGHBOUR: 'it returns false'. Refute it at one input. -/
def runFirstWrong : ChangeSpec := { name := "runFirst", fn := fun _ => fun
  | [d1, d2, d3, d4, d5] => { results := [.lit (.bool false)], args := [d1, d2, d3, d4, d5] }
  | _ => none }
def RunFirstWrongFalsely : Prop := runFirstRow.holds Try.pinned (OpenSpec.ofChange runFirstWrong)

/-- 'beaconrykeep.RunSwap': WHATEVER THE INPUT: true; the input reads as it did. -/
def runSwapSpec : ChangeSpec := { name := "runSwap", fn := fun _ => fun
  | [d1, d2, d3] => { results := [.lit (.bool true)], args := [d1, d2, d3] }
  | _ => none }
def runSwapRow : OpenClaim := { program := "ytomkecogmocnmaa", sum := "e48a8d45ab6765e7d8509b8c0ec17664dc531c8eed013aa1f8bad8a2aab5a40d", func := "beaconry/beaconrykeep.RunSwap", spec := "runSwap", apart := false }
def RunSwapSaid : Prop := runSwapRow.holds Try.pinned (OpenSpec.ofChange runSwapSpec)

/-- ITS FALSE NEIGHBOUR: 'it returns false'. Refute it at one input. -/
def runSwapWrong : ChangeSpec := { name := "runSwap", fn := fun _ => fun
  | [d1, d2, d3] => { results := [.lit (.bool false)], args := [d1, d2, d3] }
  | _ => none }
def RunSwapWrongFalsely : Prop := runSwapRow.holds Try.pinned (OpenSpec.ofChange runSwapWrong)

/-- 'beaconrykeep.RunApart': WHATEVER THE INPUT: true; the input reads as it did. -/
def runApartSpec : ChangeSpec := { name := "runApart", fn := fun _ => fun
  | [d1, d2] => { results := [.lit (.bool true)], args := [d1, d2] }
  | _ => none }
def runApartRow : OpenClaim := { program := "ytomkecogmocnmaa", sum := "e48a8d45ab6765e7d8509b8c0ec17664dc531c8eed013aa1f8bad8a2aab5a40d", func := "beaconry/beaconrykeep.RunApart", spec := "runApart", apart := false }
def RunApartSaid : Prop := runApartRow.holds Try.pinned (OpenSpec.ofChange runApartSpec)

/-- ITS FALSE NEIGHBOUR: 'it returns false'. Refute it at one input. -/
def runApartWrong : ChangeSpec := { name := "runApart", fn := fun _ => fun
  | [d1, d2] => { results := [.lit (.bool false)], args := [d1, d2] }
  | _ => none }
def RunApartWrongFalsely : Prop := runApartRow.holds Try.pinned (OpenSpec.ofChange runApartWrong)

/- THE SECOND FORM. 'bulk': how many values and letters a reading holds, each counted each time it is reached (what is shared counts as often as it is met; a slice's spare places count too). A statement '..UptoSaid' is the law's where the arguments, and the package variables that the reading takes, are together of bulk at most 1048576: NARROWER than '..Said'. Prove '..Said' where nothing that the law and all that it calls make is longer than what came in: it says more and counts as full. Else prove '..UptoSaid'. A law counts once. -/
mutual
def uptoBulk {H : Type} : DataW H → Nat
  | .lit (.string bytes) => bytes.length + 1
  | .lit _ => 1
  | .nil => 1
  | .ptr d => uptoBulk d + 1
  | .slice elems spare => uptoBulkAll elems + uptoBulkAll spare + 1
  | .agg parts => uptoBulkAll parts + 1
  | .iface _ d => uptoBulk d + 1
  | .map entries => uptoBulkEntries entries + 1
  | .held _ => 1
def uptoBulkAll {H : Type} : List (DataW H) → Nat
  | [] => 0
  | d :: r => uptoBulk d + uptoBulkAll r
def uptoBulkEntries {H : Type} : List (Lit × DataW H) → Nat
  | [] => 0
  | x :: r => uptoBulkEntry x + uptoBulkEntries r
def uptoBulkEntry {H : Type} : Lit × DataW H → Nat
  | (.string bytes, d) => bytes.length + uptoBulk d + 1
  | (_, d) => uptoBulk d + 1
 end
def uptoSmall : (H : Type) → List (DataW H) → Bool := fun _ ds => decide (uptoBulkAll ds ≤ 1048576)
def OpenSpec.upto (s : _root_.Go.ChangeSpec) : _root_.Go.OpenSpec := { _root_.Go.OpenSpec.ofChange s with cond := some uptoSmall }

/-- 'beaconrylaw.RunChecks', WHERE WHAT IT READS IS OF BULK AT MOST 1048576: true; the input reads as it did. -/
def runChecksUptoRow : OpenClaim := { program := "ytomkecogmocnmaa", sum := "e48a8d45ab6765e7d8509b8c0ec17664dc531c8eed013aa1f8bad8a2aab5a40d", func := "beaconry/beaconrylaw.RunChecks", spec := "runChecks", apart := false, narrowed := true }
def RunChecksUptoSaid : Prop := runChecksUptoRow.holds Try.pinned (OpenSpec.upto runChecksSpec)

/-- 'beaconrylaw.RunAheads', WHERE WHAT IT READS IS OF BULK AT MOST 1048576: true; the input reads as it did. -/
def runAheadsUptoRow : OpenClaim := { program := "ytomkecogmocnmaa", sum := "e48a8d45ab6765e7d8509b8c0ec17664dc531c8eed013aa1f8bad8a2aab5a40d", func := "beaconry/beaconrylaw.RunAheads", spec := "runAheads", apart := false, narrowed := true }
def RunAheadsUptoSaid : Prop := runAheadsUptoRow.holds Try.pinned (OpenSpec.upto runAheadsSpec)

/-- 'beaconrylaw.RunAparts', WHERE WHAT IT READS IS OF BULK AT MOST 1048576: true; the input reads as it did. -/
def runApartsUptoRow : OpenClaim := { program := "ytomkecogmocnmaa", sum := "e48a8d45ab6765e7d8509b8c0ec17664dc531c8eed013aa1f8bad8a2aab5a40d", func := "beaconry/beaconrylaw.RunAparts", spec := "runAparts", apart := false, narrowed := true }
def RunApartsUptoSaid : Prop := runApartsUptoRow.holds Try.pinned (OpenSpec.upto runApartsSpec)

/-- 'beaconrylaw.RunAgains', WHERE WHAT IT READS IS OF BULK AT MOST 1048576: true; the input reads as it did. -/
def runAgainsUptoRow : OpenClaim := { program := "ytomkecogmocnmaa", sum := "e48a8d45ab6765e7d8509b8c0ec17664dc531c8eed013aa1f8bad8a2aab5a40d", func := "beaconry/beaconrylaw.RunAgains", spec := "runAgains", apart := false, narrowed := true }
def RunAgainsUptoSaid : Prop := runAgainsUptoRow.holds Try.pinned (OpenSpec.upto runAgainsSpec)

/-- 'beaconrykeep.RunTrans', WHERE WHAT IT READS IS OF BULK AT MOST 1048576: true; the input reads as it did. -/
def runTransUptoRow : OpenClaim := { program := "ytomkecogmocnmaa", sum := "e48a8d45ab6765e7d8509b8c0ec17664dc531c8eed013aa1f8bad8a2aab5a40d", func := "beaconry/beaconrykeep.RunTrans", spec := "runTrans", apart := false, narrowed := true }
def RunTransUptoSaid : Prop := runTransUptoRow.holds Try.pinned (OpenSpec.upto runTransSpec)

/-- 'beaconrykeep.RunFirst', WHERE WHAT IT READS IS OF BULK AT MOST 1048576: true; the input reads as it did. -/
def runFirstUptoRow : OpenClaim := { program := "ytomkecogmocnmaa", sum := "e48a8d45ab6765e7d8509b8c0ec17664dc531c8eed013aa1f8bad8a2aab5a40d", func := "beaconry/beaconrykeep.RunFirst", spec := "runFirst", apart := false, narrowed := true }
def RunFirstUptoSaid : Prop := runFirstUptoRow.holds Try.pinned (OpenSpec.upto runFirstSpec)

/-- 'beaconrykeep.RunSwap', WHERE WHAT IT READS IS OF BULK AT MOST 1048576: true; the input reads as it did. -/
def runSwapUptoRow : OpenClaim := { program := "ytomkecogmocnmaa", sum := "e48a8d45ab6765e7d8509b8c0ec17664dc531c8eed013aa1f8bad8a2aab5a40d", func := "beaconry/beaconrykeep.RunSwap", spec := "runSwap", apart := false, narrowed := true }
def RunSwapUptoSaid : Prop := runSwapUptoRow.holds Try.pinned (OpenSpec.upto runSwapSpec)

/-- 'beaconrykeep.RunApart', WHERE WHAT IT READS IS OF BULK AT MOST 1048576: true; the input reads as it did. -/
def runApartUptoRow : OpenClaim := { program := "ytomkecogmocnmaa", sum := "e48a8d45ab6765e7d8509b8c0ec17664dc531c8eed013aa1f8bad8a2aab5a40d", func := "beaconry/beaconrykeep.RunApart", spec := "runApart", apart := false, narrowed := true }
def RunApartUptoSaid : Prop := runApartUptoRow.holds Try.pinned (OpenSpec.upto runApartSpec)

end Rows
end Go.Proofs.Ytomkecogmocnmaa
