/-
  No cell of these rows narrows 'for every input' (looked for: loops, veiled, ifaces, maps, wideKeys, modest, calm, conditions, laid).
  DERIVED. THE GIVEN ROWS OF THIS SEAT. 8 by the template 'for every input the law returns true; each argument reads behind the call as it read before'; 0 by the template 'total and deterministic' (their statements: YtieicimoolegoaaTotals.lean).
  GIVEN WITH THE SEED: the statements are not yours to turn. If you find one false, say at which input.
  Laid BY PROGRAM, IN A SANDBOX (cutbox-rows.mjs): the forced cells as the released guide's own fill.sh prints them over the translation ef47c4d8ad904039… (all of the seat's roots in one cut). By AI agents, Wed Nov 11 2026. No macro, syntax, notation, axiom, sorry.
-/
import Derived.Test.YtieicimoolegoaaChecked
import GoSem.Claim
import GoSem.ClaimJoined
import GoSem.ClaimMapViews
import Derived.JoinedTies
import Derived.KernelRfl
namespace Go.Proofs.Ytieicimoolegoaa
/- THE CELL 'sum', in the pinned program and in every row, IS THE sha256 OF THE DUMP (.gsa) THAT YtieicimoolegoaaProg.lean LOADS. Nothing in Lean hashes anything: it is a label: what it is worth is what the hold of that sum in a sandbox is worth. -/
noncomputable def Try.pinned : Pinned := { name := "ytieicimoolegoaa", sum := "ef47c4d8ad90403980c384cfea6fa57f02795a41632a58dd5a2fcb0397100927", checked := Try.checked }
namespace Rows
def none {H : Type} : Left H := { results := [], args := [] }

/-- 'beaconrylaw.ForkRounds': WHATEVER THE INPUT: true; the input reads as it did. -/
def forkRoundsSpec : ChangeSpec := { name := "forkRounds", fn := fun _ => fun
  | [d1, d2] => { results := [.lit (.bool true)], args := [d1, d2] }
  | _ => none }
def forkRoundsRow : OpenClaim := { program := "ytieicimoolegoaa", sum := "ef47c4d8ad90403980c384cfea6fa57f02795a41632a58dd5a2fcb0397100927", func := "beaconry/beaconrylaw.ForkRounds", spec := "forkRounds", apart := false }
def ForkRoundsSaid : Prop := forkRoundsRow.holds Try.pinned (OpenSpec.ofChange forkRoundsSpec)

/-- ITS FALSE NEIGHBOUR: 'it returns false'. Refute it at one input. -/
def forkRoundsWrong : ChangeSpec := { name := "forkRounds", fn := fun _ => fun
  | [d1, d2] => { results := [.lit (.bool false)], args := [d1, d2] }
  | _ => none }
def ForkRoundsWrongFalsely : Prop := forkRoundsRow.holds Try.pinned (OpenSpec.ofChange forkRoundsWrong)

/-- 'beaconrylaw.ForkLows': WHATEVER THE INPUT: true; the input reads as it did. -/
def forkLowsSpec : ChangeSpec := { name := "forkLows", fn := fun _ => fun
  | [d1, d2] => { results := [.lit (.bool true)], args := [d1, d2] }
  | _ => none }
def forkLowsRow : OpenClaim := { program := "ytieicimoolegoaa", sum := "ef47c4d8ad90403980c384cfea6fa57f02795a41632a58dd5a2fcb0397100927", func := "beaconry/beaconrylaw.ForkLows", spec := "forkLows", apart := false }
def ForkLowsSaid : Prop := forkLowsRow.holds Try.pinned (OpenSpec.ofChange forkLowsSpec)

/-- ITS FALSE NEIGHBOUR: 'it returns false'. Refute it at one input. -/
def forkLowsWrong : ChangeSpec := { name := "forkLows", fn := fun _ => fun
  | [d1, d2] => { results := [.lit (.bool false)], args := [d1, d2] }
  | _ => none }
def ForkLowsWrongFalsely : Prop := forkLowsRow.holds Try.pinned (OpenSpec.ofChange forkLowsWrong)

/-- 'beaconrylaw.ForkTurns': WHATEVER THE INPUT: true; the input reads as it did. -/
def forkTurnsSpec : ChangeSpec := { name := "forkTurns", fn := fun _ => fun
  | [d1, d2, d3] => { results := [.lit (.bool true)], args := [d1, d2, d3] }
  | _ => none }
def forkTurnsRow : OpenClaim := { program := "ytieicimoolegoaa", sum := "ef47c4d8ad90403980c384cfea6fa57f02795a41632a58dd5a2fcb0397100927", func := "beaconry/beaconrylaw.ForkTurns", spec := "forkTurns", apart := false }
def ForkTurnsSaid : Prop := forkTurnsRow.holds Try.pinned (OpenSpec.ofChange forkTurnsSpec)

/-- ITS FALSE NEIGHBOUR: 'it returns false'. Refute it at one input. -/
def forkTurnsWrong : ChangeSpec := { name := "forkTurns", fn := fun _ => fun
  | [d1, d2, d3] => { results := [.lit (.bool false)], args := [d1, d2, d3] }
  | _ => none }
def ForkTurnsWrongFalsely : Prop := forkTurnsRow.holds Try.pinned (OpenSpec.ofChange forkTurnsWrong)

/-- 'beaconrylaw.ForkRuns': WHATEVER THE INPUT: true; the input reads as it did. -/
def forkRunsSpec : ChangeSpec := { name := "forkRuns", fn := fun _ => fun
  | [d1, d2, d3] => { results := [.lit (.bool true)], args := [d1, d2, d3] }
  | _ => none }
def forkRunsRow : OpenClaim := { program := "ytieicimoolegoaa", sum := "ef47c4d8ad90403980c384cfea6fa57f02795a41632a58dd5a2fcb0397100927", func := "beaconry/beaconrylaw.ForkRuns", spec := "forkRuns", apart := false }
def ForkRunsSaid : Prop := forkRunsRow.holds Try.pinned (OpenSpec.ofChange forkRunsSpec)

/-- ITS FALSE NEIGHBOUR: 'it returns false'. Refute it at one input. -/
def forkRunsWrong : ChangeSpec := { name := "forkRuns", fn := fun _ => fun
  | [d1, d2, d3] => { results := [.lit (.bool false)], args := [d1, d2, d3] }
  | _ => none }
def ForkRunsWrongFalsely : Prop := forkRunsRow.holds Try.pinned (OpenSpec.ofChange forkRunsWrong)

/-- 'beaconrykeep.ForkLow': WHATEVER THE INPUT: true; the input reads as it did. -/
def forkLowSpec : ChangeSpec := { name := "forkLow", fn := fun _ => fun
  | [d1, d2] => { results := [.lit (.bool true)], args := [d1, d2] }
  | _ => none }
def forkLowRow : OpenClaim := { program := "ytieicimoolegoaa", sum := "ef47c4d8ad90403980c384cfea6fa57f02795a41632a58dd5a2fcb0397100927", func := "beaconry/beaconrykeep.ForkLow", spec := "forkLow", apart := false }
def ForkLowSaid : Prop := forkLowRow.holds Try.pinned (OpenSpec.ofChange forkLowSpec)

/-- ITS FALSE NEIGHBOUR: 'it returns false'. Refute it at one input. -/
def forkLowWrong : ChangeSpec := { name := "forkLow", fn := fun _ => fun
  | [d1, d2] => { results := [.lit (.bool false)], args := [d1, d2] }
  | _ => none }
def ForkLowWrongFalsely : Prop := forkLowRow.holds Try.pinned (OpenSpec.ofChange forkLowWrong)

/-- 'beaconrykeep.ForkTurn': WHATEVER THE INPUT: true; the input reads as it did. -/
def forkTurnSpec : ChangeSpec := { name := "forkTurn", fn := fun _ => fun
  | [d1, d2, d3] => { results := [.lit (.bool true)], args := [d1, d2, d3] }
  | _ => none }
def forkTurnRow : OpenClaim := { program := "ytieicimoolegoaa", sum := "ef47c4d8ad90403980c384cfea6fa57f02795a41632a58dd5a2fcb0397100927", func := "beaconry/beaconrykeep.ForkTurn", spec := "forkTurn", apart := false }
def ForkTurnSaid : Prop := forkTurnRow.holds Try.pinned (OpenSpec.ofChange forkTurnSpec)

/-- ITS FALSE NEIGHBOUR: 'it returns false'. Refute it at one input. -/
def forkTurnWrong : ChangeSpec := { name := "forkTurn", fn := fun _ => fun
  | [d1, d2, d3] => { results := [.lit (.bool false)], args := [d1, d2, d3] }
  | _ => none }
def ForkTurnWrongFalsely : Prop := forkTurnRow.holds Try.pinned (OpenSpec.ofChange forkTurnWrong)

/-- 'beaconrykeep.ForkFair': WHATEVER THE INPUT: true; the input reads as it did. -/
def forkFairSpec : ChangeSpec := { name := "forkFair", fn := fun _ => fun
  | [d1, d2, d3] => { results := [.lit (.bool true)], args := [d1, d2, d3] }
  | _ => none }
def forkFairRow : OpenClaim := { program := "ytieicimoolegoaa", sum := "ef47c4d8ad90403980c384cfea6fa57f02795a41632a58dd5a2fcb0397100927", func := "beaconry/beaconrykeep.ForkFair", spec := "forkFair", apart := false }
def ForkFairSaid : Prop := forkFairRow.holds Try.pinned (OpenSpec.ofChange forkFairSpec)

/-- ITS FALSE NEIGHBOUR: 'it returns false'. Refute it at one input. -/
def forkFairWrong : ChangeSpec := { name := "forkFair", fn := fun _ => fun
  | [d1, d2, d3] => { results := [.lit (.bool false)], args := [d1, d2, d3] }
  | _ => none }
def ForkFairWrongFalsely : Prop := forkFairRow.holds Try.pinned (OpenSpec.ofChange forkFairWrong)

/-- 'beaconrykeep.ForkDown': WHATEVER THE INPUT: true; the input reads as it did. -/
def forkDownSpec : ChangeSpec := { name := "forkDown", fn := fun _ => fun
  | [d1, d2, d3, d4] => { results := [.lit (.bool true)], args := [d1, d2, d3, d4] }
  | _ => none }
def forkDownRow : OpenClaim := { program := "ytieicimoolegoaa", sum := "ef47c4d8ad90403980c384cfea6fa57f02795a41632a58dd5a2fcb0397100927", func := "beaconry/beaconrykeep.ForkDown", spec := "forkDown", apart := false }
def ForkDownSaid : Prop := forkDownRow.holds Try.pinned (OpenSpec.ofChange forkDownSpec)

/-- ITS FALSE NEIGHBOUR: 'it returns false'. Refute it at one input. -/
def forkDownWrong : ChangeSpec := { name := "forkDown", fn := fun _ => fun
  | [d1, d2, d3, d4] => { results := [.lit (.bool false)], args := [d1, d2, d3, d4] }
  | _ => none }
def ForkDownWrongFalsely : Prop := forkDownRow.holds Try.pinned (OpenSpec.ofChange forkDownWrong)

/- THE SECOND FORM. 'bulk': how many values and letters a reading holds, each counted each time it is reached (what is shared counts as often as it is met; a slice's spare places count too). A statement '..UptoSaid' is the law's where the arguments, and the package variables that the reading takes, are together of bulk at most 1048576: NARROWER than '..Said'. Prove '..Said' where nothing that the law and all that it calls make is longer than what came in: it says more and counts as full. Else prove '..UptoSaid'. A law counts once. -/
mutual
def uptoBulk {H : Type} : DataW H → Nat
  | .lit (.string bytes) => bytes.length + 1
  | .lit _ => 1
  | .nil => 1
  | .ptr d => uptoBulk d + 1
  | .slice elems spare => uptoBulkAll elems + uptoBulkAll spare + 1
  | .agg parts => uptoBulkAll parts + 1
  | .iface _ d => uptoBulk d + 1
  | .map entries => uptoBulkEntries entries + 1
  | .held _ => 1
def uptoBulkAll {H : Type} : List (DataW H) → Nat
  | [] => 0
  | d :: r => uptoBulk d + uptoBulkAll r
def uptoBulkEntries {H : Type} : List (Lit × DataW H) → Nat
  | [] => 0
  | x :: r => uptoBulkEntry x + uptoBulkEntries r
def uptoBulkEntry {H : Type} : Lit × DataW H → Nat
  | (.string bytes, d) => bytes.length + uptoBulk d + 1
  | (_, d) => uptoBulk d + 1
 end
def uptoSmall : (H : Type) → List (DataW H) → Bool := fun _ ds => decide (uptoBulkAll ds ≤ 1048576)
def OpenSpec.upto (s : _root_.Go.ChangeSpec) : _root_.Go.OpenSpec := { _root_.Go.OpenSpec.ofChange s with cond := some uptoSmall }

/-- 'beaconrylaw.ForkRounds', WHERE WHAT IT READS IS OF BULK AT MOST 1048576: true; the input reads as it did. -/
def forkRoundsUptoRow : OpenClaim := { program := "ytieicimoolegoaa", sum := "ef47c4d8ad90403980c384cfea6fa57f02795a41632a58dd5a2fcb0397100927", func := "beaconry/beaconrylaw.ForkRounds", spec := "forkRounds", apart := false, narrowed := true }
def ForkRoundsUptoSaid : Prop := forkRoundsUptoRow.holds Try.pinned (OpenSpec.upto forkRoundsSpec)

/-- 'beaconrylaw.ForkLows', WHERE WHAT IT READS IS OF BULK AT MOST 1048576: true; the input reads as it did. -/
def forkLowsUptoRow : OpenClaim := { program := "ytieicimoolegoaa", sum := "ef47c4d8ad90403980c384cfea6fa57f02795a41632a58dd5a2fcb0397100927", func := "beaconry/beaconrylaw.ForkLows", spec := "forkLows", apart := false, narrowed := true }
def ForkLowsUptoSaid : Prop := forkLowsUptoRow.holds Try.pinned (OpenSpec.upto forkLowsSpec)

/-- 'beaconrylaw.ForkTurns', WHERE WHAT IT READS IS OF BULK AT MOST 1048576: true; the input reads as it did. -/
def forkTurnsUptoRow : OpenClaim := { program := "ytieicimoolegoaa", sum := "ef47c4d8ad90403980c384cfea6fa57f02795a41632a58dd5a2fcb0397100927", func := "beaconry/beaconrylaw.ForkTurns", spec := "forkTurns", apart := false, narrowed := true }
def ForkTurnsUptoSaid : Prop := forkTurnsUptoRow.holds Try.pinned (OpenSpec.upto forkTurnsSpec)

/-- 'beaconrylaw.ForkRuns', WHERE WHAT IT READS IS OF BULK AT MOST 1048576: true; the input reads as it did. -/
def forkRunsUptoRow : OpenClaim := { program := "ytieicimoolegoaa", sum := "ef47c4d8ad90403980c384cfea6fa57f02795a41632a58dd5a2fcb0397100927", func := "beaconry/beaconrylaw.ForkRuns", spec := "forkRuns", apart := false, narrowed := true }
def ForkRunsUptoSaid : Prop := forkRunsUptoRow.holds Try.pinned (OpenSpec.upto forkRunsSpec)

/-- 'beaconrykeep.ForkLow', WHERE WHAT IT READS IS OF BULK AT MOST 1048576: true; the input reads as it did. -/
def forkLowUptoRow : OpenClaim := { program := "ytieicimoolegoaa", sum := "ef47c4d8ad90403980c384cfea6fa57f02795a41632a58dd5a2fcb0397100927", func := "beaconry/beaconrykeep.ForkLow", spec := "forkLow", apart := false, narrowed := true }
def ForkLowUptoSaid : Prop := forkLowUptoRow.holds Try.pinned (OpenSpec.upto forkLowSpec)

/-- 'beaconrykeep.ForkTurn', WHERE WHAT IT READS IS OF BULK AT MOST 1048576: true; the input reads as it did. -/
def forkTurnUptoRow : OpenClaim := { program := "ytieicimoolegoaa", sum := "ef47c4d8ad90403980c384cfea6fa57f02795a41632a58dd5a2fcb0397100927", func := "beaconry/beaconrykeep.ForkTurn", spec := "forkTurn", apart := false, narrowed := true }
def ForkTurnUptoSaid : Prop := forkTurnUptoRow.holds Try.pinned (OpenSpec.upto forkTurnSpec)

/-- 'beaconrykeep.ForkFair', WHERE WHAT IT READS IS OF BULK AT MOST 1048576: true; the input reads as it did. -/
def forkFairUptoRow : OpenClaim := { program := "ytieicimoolegoaa", sum := "ef47c4d8ad90403980c384cfea6fa57f02795a41632a58dd5a2fcb0397100927", func := "beaconry/beaconrykeep.ForkFair", spec := "forkFair", apart := false, narrowed := true }
def ForkFairUptoSaid : Prop := forkFairUptoRow.holds Try.pinned (OpenSpec.upto forkFairSpec)

/-- 'beaconrykeep.ForkDown', WHERE WHAT IT READS IS OF BULK AT MOST 1048576: true; the input reads as it did. -/
def forkDownUptoRow : OpenClaim := { program := "ytieicimoolegoaa", sum := "ef47c4d8ad90403980c384cfea6fa57f02795a41632a58dd5a2fcb0397100927", func := "beaconry/beaconrykeep.ForkDown", spec := "forkDown", apart := false, narrowed := true }
def ForkDownUptoSaid : Prop := forkDownUptoRow.holds Try.pinned (OpenSpec.upto forkDownSpec)

end Rows
end Go.Proofs.Ytieicimoolegoaa
