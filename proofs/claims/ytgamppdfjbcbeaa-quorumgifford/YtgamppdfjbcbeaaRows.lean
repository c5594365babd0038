/-
  No cell of these rows narrows 'for every input' (looked for: loops, veiled, ifaces, maps, wideKeys, modest, calm, conditions, laid).
  DERIVED. THE GIVEN ROWS OF THIS SEAT. 9 by the template 'for every input the law returns true; each argument reads behind the call as it read before'; 0 by the template 'total and deterministic' (their statements: YtgamppdfjbcbeaaTotals.lean).
  GIVEN WITH THE SEED: the statements are not yours to turn. If you find one false, say at which input.
  Laid BY PROGRAM, IN A SANDBOX (cutbox-rows.mjs): the forced cells as the released guide's own fill.sh prints them over the translation e92c6865624c4133… (all of the seat's roots in one cut). By AI agents, Wed Nov 11 2026. No macro, syntax, notation, axiom, sorry.
-/
import Derived.Test.YtgamppdfjbcbeaaChecked
import GoSem.Claim
import GoSem.ClaimJoined
import GoSem.ClaimMapViews
import Derived.JoinedTies
import Derived.KernelRfl
namespace Go.Proofs.Ytgamppdfjbcbeaa
/- THE CELL 'sum', in the pinned program and in every row, IS THE sha256 OF THE DUMP (.gsa) THAT YtgamppdfjbcbeaaProg.lean LOADS. Nothing in Lean hashes anything: it is a label: what it is worth is what the hold of that sum in a sandbox is worth. -/
noncomputable def Try.pinned : Pinned := { name := "ytgamppdfjbcbeaa", sum := "e92c6865624c413374374adff29c5d81f5a7ada403148849565b7570c724cecf", checked := Try.checked }
namespace Rows
def none {H : Type} : Left H := { results := [], args := [] }

/-- 'beaconrylaw.QuorumMeets': WHATEVER THE INPUT: true; the input reads as it did. -/
def quorumMeetsSpec : ChangeSpec := { name := "quorumMeets", fn := fun _ => fun
  | [d1, d2] => { results := [.lit (.bool true)], args := [d1, d2] }
  | _ => none }
def quorumMeetsRow : OpenClaim := { program := "ytgamppdfjbcbeaa", sum := "e92c6865624c413374374adff29c5d81f5a7ada403148849565b7570c724cecf", func := "beaconry/beaconrylaw.QuorumMeets", spec := "quorumMeets", unfollowed := true, recurses := true, apart := false }
def QuorumMeetsSaid : Prop := quorumMeetsRow.holds Try.pinned (OpenSpec.ofChange quorumMeetsSpec)

/-- ITS FALSE NEIGHBOUR: 'it returns false'. Refute it at one input. -/
def quorumMeetsWrong : ChangeSpec := { name := "quorumMeets", fn := fun _ => fun
  | [d1, d2] => { results := [.lit (.bool false)], args := [d1, d2] }
  | _ => none }
def QuorumMeetsWrongFalsely : Prop := quorumMeetsRow.holds Try.pinned (OpenSpec.ofChange quorumMeetsWrong)

/-- 'beaconrylaw.QuorumWins': WHATEVER THE INPUT: true; the input reads as it did. -/
def quorumWinsSpec : ChangeSpec := { name := "quorumWins", fn := fun _ => fun
  | [d1, d2, d3] => { results := [.lit (.bool true)], args := [d1, d2, d3] }
  | _ => none }
def quorumWinsRow : OpenClaim := { program := "ytgamppdfjbcbeaa", sum := "e92c6865624c413374374adff29c5d81f5a7ada403148849565b7570c724cecf", func := "beaconry/beaconrylaw.QuorumWins", spec := "quorumWins", unfollowed := true, recurses := true, apart := false }
def QuorumWinsSaid : Prop := quorumWinsRow.holds Try.pinned (OpenSpec.ofChange quorumWinsSpec)

/-- ITS FALSE NEIGHBOUR: 'it returns false'. Refute it at one input. -/
def quorumWinsWrong : ChangeSpec := { name := "quorumWins", fn := fun _ => fun
  | [d1, d2, d3] => { results := [.lit (.bool false)], args := [d1, d2, d3] }
  | _ => none }
def QuorumWinsWrongFalsely : Prop := quorumWinsRow.holds Try.pinned (OpenSpec.ofChange quorumWinsWrong)

/-- 'beaconrylaw.QuorumFulls': WHATEVER THE INPUT: true; the input reads as it did. -/
def quorumFullsSpec : ChangeSpec := { name := "quorumFulls", fn := fun _ => fun
  | [d1, d2] => { results := [.lit (.bool true)], args := [d1, d2] }
  | _ => none }
def quorumFullsRow : OpenClaim := { program := "ytgamppdfjbcbeaa", sum := "e92c6865624c413374374adff29c5d81f5a7ada403148849565b7570c724cecf", func := "beaconry/beaconrylaw.QuorumFulls", spec := "quorumFulls", unfollowed := true, recurses := true, apart := false }
def QuorumFullsSaid : Prop := quorumFullsRow.holds Try.pinned (OpenSpec.ofChange quorumFullsSpec)

/-- ITS FALSE NEIGHBOUR: 'it returns false'. Refute it at one input. -/
def quorumFullsWrong : ChangeSpec := { name := "quorumFulls", fn := fun _ => fun
  | [d1, d2] => { results := [.lit (.bool false)], args := [d1, d2] }
  | _ => none }
def QuorumFullsWrongFalsely : Prop := quorumFullsRow.holds Try.pinned (OpenSpec.ofChange quorumFullsWrong)

/-- 'beaconrylaw.QuorumBetters': WHATEVER THE INPUT: true; the input reads as it did. -/
def quorumBettersSpec : ChangeSpec := { name := "quorumBetters", fn := fun _ => fun
  | [d1, d2] => { results := [.lit (.bool true)], args := [d1, d2] }
  | _ => none }
def quorumBettersRow : OpenClaim := { program := "ytgamppdfjbcbeaa", sum := "e92c6865624c413374374adff29c5d81f5a7ada403148849565b7570c724cecf", func := "beaconry/beaconrylaw.QuorumBetters", spec := "quorumBetters", unfollowed := true, recurses := true, apart := false }
def QuorumBettersSaid : Prop := quorumBettersRow.holds Try.pinned (OpenSpec.ofChange quorumBettersSpec)

/-- ITS FALSE NEIGHBOUR: 'it returns false'. Refute it at one input. -/
def quorumBettersWrong : ChangeSpec := { name := "quorumBetters", fn := fun _ => fun
  | [d1, d2] => { results := [.lit (.bool false)], args := [d1, d2] }
  | _ => none }
def QuorumBettersWrongFalsely : Prop := quorumBettersRow.holds Try.pinned (OpenSpec.ofChange quorumBettersWrong)

/-- 'beaconrylaw.QuorumVotes': WHATEVER THE INPUT: true; the input reads as it did. -/
def quorumVotesSpec : ChangeSpec := { name := "quorumVotes", fn := fun _ => fun
  | [d1, d2] => { results := [.lit (.bool true)], args := [d1, d2] }
  | _ => none }
def quorumVotesRow : OpenClaim := { program := "ytgamppdfjbcbeaa", sum := "e92c6865624c413374374adff29c5d81f5a7ada403148849565b7570c724cecf", func := "beaconry/beaconrylaw.QuorumVotes", spec := "quorumVotes", unfollowed := true, recurses := true, apart := false }
def QuorumVotesSaid : Prop := quorumVotesRow.holds Try.pinned (OpenSpec.ofChange quorumVotesSpec)

/-- ITS FALSE NEIGHBOUR: 'it returns false'. Refute it at one input. -/
def quorumVotesWrong : ChangeSpec := { name := "quorumVotes", fn := fun _ => fun
  | [d1, d2] => { results := [.lit (.bool false)], args := [d1, d2] }
  | _ => none }
def QuorumVotesWrongFalsely : Prop := quorumVotesRow.holds Try.pinned (OpenSpec.ofChange quorumVotesWrong)

/-- 'beaconrykeep.QuorumOne': WHATEVER THE INPUT: true; the input reads as it did. -/
def quorumOneSpec : ChangeSpec := { name := "quorumOne", fn := fun _ => fun
  | [d1, d2, d3] => { results := [.lit (.bool true)], args := [d1, d2, d3] }
  | _ => none }
def quorumOneRow : OpenClaim := { program := "ytgamppdfjbcbeaa", sum := "e92c6865624c413374374adff29c5d81f5a7ada403148849565b7570c724cecf", func := "beaconry/beaconrykeep.QuorumOne", spec := "quorumOne", unfollowed := true, recurses := true, apart := false }
def QuorumOneSaid : Prop := quorumOneRow.holds Try.pinned (OpenSpec.ofChange quorumOneSpec)

/-- ITS FALSE NEIGHBOUR: 'it returns false'. Refute it at one input. -/
def quorumOneWrong : ChangeSpec := { name := "quorumOne", fn := fun _ => fun
  | [d1, d2, d3] => { results := [.lit (.bool false)], args := [d1, d2, d3] }
  | _ => none }
def QuorumOneWrongFalsely : Prop := quorumOneRow.holds Try.pinned (OpenSpec.ofChange quorumOneWrong)

/-- 'beaconrykeep.QuorumBetter': WHATEVER THE INPUT: true; the input reads as it did. -/
def quorumBetterSpec : ChangeSpec := { name := "quorumBetter", fn := fun _ => fun
  | [d1, d2] => { results := [.lit (.bool true)], args := [d1, d2] }
  | _ => none }
def quorumBetterRow : OpenClaim := { program := "ytgamppdfjbcbeaa", sum := "e92c6865624c413374374adff29c5d81f5a7ada403148849565b7570c724cecf", func := "beaconry/beaconrykeep.QuorumBetter", spec := "quorumBetter", unfollowed := true, recurses := true, apart := false }
def QuorumBetterSaid : Prop := quorumBetterRow.holds Try.pinned (OpenSpec.ofChange quorumBetterSpec)

/-- ITS FALSE NEIGHBOUR: 'it returns false'. Refute it at one input. -/
def quorumBetterWrong : ChangeSpec := { name := "quorumBetter", fn := fun _ => fun
  | [d1, d2] => { results := [.lit (.bool false)], args := [d1, d2] }
  | _ => none }
def QuorumBetterWrongFalsely : Prop := quorumBetterRow.holds Try.pinned (OpenSpec.ofChange quorumBetterWrong)

/-- 'beaconrykeep.QuorumMore': WHATEVER THE INPUT: true; the input reads as it did. -/
def quorumMoreSpec : ChangeSpec := { name := "quorumMore", fn := fun _ => fun
  | [d1, d2, d3, d4] => { results := [.lit (.bool true)], args := [d1, d2, d3, d4] }
  | _ => none }
def quorumMoreRow : OpenClaim := { program := "ytgamppdfjbcbeaa", sum := "e92c6865624c413374374adff29c5d81f5a7ada403148849565b7570c724cecf", func := "beaconry/beaconrykeep.QuorumMore", spec := "quorumMore", unfollowed := true, recurses := true, apart := false }
def QuorumMoreSaid : Prop := quorumMoreRow.holds Try.pinned (OpenSpec.ofChange quorumMoreSpec)

/-- ITS FALSE NEIGHBOUR: 'it returns false'. Refute it at one input. -/
def quorumMoreWrong : ChangeSpec := { name := "quorumMore", fn := fun _ => fun
  | [d1, d2, d3, d4] => { results := [.lit (.bool false)], args := [d1, d2, d3, d4] }
  | _ => none }
def QuorumMoreWrongFalsely : Prop := quorumMoreRow.holds Try.pinned (OpenSpec.ofChange quorumMoreWrong)

/-- 'beaconrykeep.QuorumGifford': WHATEVER THE INPUT: true; the input reads as it did. -/
def quorumGiffordSpec : ChangeSpec := { name := "quorumGifford", fn := fun _ => fun
  | [d1, d2] => { results := [.lit (.bool true)], args := [d1, d2] }
  | _ => none }
def quorumGiffordRow : OpenClaim := { program := "ytgamppdfjbcbeaa", sum := "e92c6865624c413374374adff29c5d81f5a7ada403148849565b7570c724cecf", func := "beaconry/beaconrykeep.QuorumGifford", spec := "quorumGifford", unfollowed := true, recurses := true, apart := false }
def QuorumGiffordSaid : Prop := quorumGiffordRow.holds Try.pinned (OpenSpec.ofChange quorumGiffordSpec)

/-- ITS FALSE NEIGHBOUR: 'it returns false'. Refute it at one input. -/
def quorumGiffordWrong : ChangeSpec := { name := "quorumGifford", fn := fun _ => fun
  | [d1, d2] => { results := [.lit (.bool false)], args := [d1, d2] }
  | _ => none }
def QuorumGiffordWrongFalsely : Prop := quorumGiffordRow.holds Try.pinned (OpenSpec.ofChange quorumGiffordWrong)

/- THE SECOND FORM. 'bulk': how many values and letters a reading holds, each counted each time it is reached (what is shared counts as often as it is met; a slice's spare places count too). A statement '..UptoSaid' is the law's where the arguments, and the package variables that the reading takes, are together of bulk at most 1048576: NARROWER than '..Said'. Prove '..Said' where nothing that the law and all that it calls make is longer than what came in: it says more and counts as full. Else prove '..UptoSaid'. A law counts once. -/
mutual
def uptoBulk {H : Type} : DataW H → Nat
  | .lit (.string bytes) => bytes.length + 1
  | .lit _ => 1
  | .nil => 1
  | .ptr d => uptoBulk d + 1
  | .slice elems spare => uptoBulkAll elems + uptoBulkAll spare + 1
  | .agg parts => uptoBulkAll parts + 1
  | .iface _ d => uptoBulk d + 1
  | .map entries => uptoBulkEntries entries + 1
  | .held _ => 1
def uptoBulkAll {H : Type} : List (DataW H) → Nat
  | [] => 0
  | d :: r => uptoBulk d + uptoBulkAll r
def uptoBulkEntries {H : Type} : List (Lit × DataW H) → Nat
  | [] => 0
  | x :: r => uptoBulkEntry x + uptoBulkEntries r
def uptoBulkEntry {H : Type} : Lit × DataW H → Nat
  | (.string bytes, d) => bytes.length + uptoBulk d + 1
  | (_, d) => uptoBulk d + 1
 end
def uptoSmall : (H : Type) → List (DataW H) → Bool := fun _ ds => decide (uptoBulkAll ds ≤ 1048576)
def OpenSpec.upto (s : _root_.Go.ChangeSpec) : _root_.Go.OpenSpec := { _root_.Go.OpenSpec.ofChange s with cond := some uptoSmall }

/-- 'beaconrylaw.QuorumMeets', WHERE WHAT IT READS IS OF BULK AT MOST 1048576: true; the input reads as it did. -/
def quorumMeetsUptoRow : OpenClaim := { program := "ytgamppdfjbcbeaa", sum := "e92c6865624c413374374adff29c5d81f5a7ada403148849565b7570c724cecf", func := "beaconry/beaconrylaw.QuorumMeets", spec := "quorumMeets", unfollowed := true, recurses := true, apart := false, narrowed := true }
def QuorumMeetsUptoSaid : Prop := quorumMeetsUptoRow.holds Try.pinned (OpenSpec.upto quorumMeetsSpec)

/-- 'beaconrylaw.QuorumWins', WHERE WHAT IT READS IS OF BULK AT MOST 1048576: true; the input reads as it did. -/
def quorumWinsUptoRow : OpenClaim := { program := "ytgamppdfjbcbeaa", sum := "e92c6865624c413374374adff29c5d81f5a7ada403148849565b7570c724cecf", func := "beaconry/beaconrylaw.QuorumWins", spec := "quorumWins", unfollowed := true, recurses := true, apart := false, narrowed := true }
def QuorumWinsUptoSaid : Prop := quorumWinsUptoRow.holds Try.pinned (OpenSpec.upto quorumWinsSpec)

/-- 'beaconrylaw.QuorumFulls', WHERE WHAT IT READS IS OF BULK AT MOST 1048576: true; the input reads as it did. -/
def quorumFullsUptoRow : OpenClaim := { program := "ytgamppdfjbcbeaa", sum := "e92c6865624c413374374adff29c5d81f5a7ada403148849565b7570c724cecf", func := "beaconry/beaconrylaw.QuorumFulls", spec := "quorumFulls", unfollowed := true, recurses := true, apart := false, narrowed := true }
def QuorumFullsUptoSaid : Prop := quorumFullsUptoRow.holds Try.pinned (OpenSpec.upto quorumFullsSpec)

/-- 'beaconrylaw.QuorumBetters', WHERE WHAT IT READS IS OF BULK AT MOST 1048576: true; the input reads as it did. -/
def quorumBettersUptoRow : OpenClaim := { program := "ytgamppdfjbcbeaa", sum := "e92c6865624c413374374adff29c5d81f5a7ada403148849565b7570c724cecf", func := "beaconry/beaconrylaw.QuorumBetters", spec := "quorumBetters", unfollowed := true, recurses := true, apart := false, narrowed := true }
def QuorumBettersUptoSaid : Prop := quorumBettersUptoRow.holds Try.pinned (OpenSpec.upto quorumBettersSpec)

/-- 'beaconrylaw.QuorumVotes', WHERE WHAT IT READS IS OF BULK AT MOST 1048576: true; the input reads as it did. -/
def quorumVotesUptoRow : OpenClaim := { program := "ytgamppdfjbcbeaa", sum := "e92c6865624c413374374adff29c5d81f5a7ada403148849565b7570c724cecf", func := "beaconry/beaconrylaw.QuorumVotes", spec := "quorumVotes", unfollowed := true, recurses := true, apart := false, narrowed := true }
def QuorumVotesUptoSaid : Prop := quorumVotesUptoRow.holds Try.pinned (OpenSpec.upto quorumVotesSpec)

/-- 'beaconrykeep.QuorumOne', WHERE WHAT IT READS IS OF BULK AT MOST 1048576: true; the input reads as it did. -/
def quorumOneUptoRow : OpenClaim := { program := "ytgamppdfjbcbeaa", sum := "e92c6865624c413374374adff29c5d81f5a7ada403148849565b7570c724cecf", func := "beaconry/beaconrykeep.QuorumOne", spec := "quorumOne", unfollowed := true, recurses := true, apart := false, narrowed := true }
def QuorumOneUptoSaid : Prop := quorumOneUptoRow.holds Try.pinned (OpenSpec.upto quorumOneSpec)

/-- 'beaconrykeep.QuorumBetter', WHERE WHAT IT READS IS OF BULK AT MOST 1048576: true; the input reads as it did. -/
def quorumBetterUptoRow : OpenClaim := { program := "ytgamppdfjbcbeaa", sum := "e92c6865624c413374374adff29c5d81f5a7ada403148849565b7570c724cecf", func := "beaconry/beaconrykeep.QuorumBetter", spec := "quorumBetter", unfollowed := true, recurses := true, apart := false, narrowed := true }
def QuorumBetterUptoSaid : Prop := quorumBetterUptoRow.holds Try.pinned (OpenSpec.upto quorumBetterSpec)

/-- 'beaconrykeep.QuorumMore', WHERE WHAT IT READS IS OF BULK AT MOST 1048576: true; the input reads as it did. -/
def quorumMoreUptoRow : OpenClaim := { program := "ytgamppdfjbcbeaa", sum := "e92c6865624c413374374adff29c5d81f5a7ada403148849565b7570c724cecf", func := "beaconry/beaconrykeep.QuorumMore", spec := "quorumMore", unfollowed := true, recurses := true, apart := false, narrowed := true }
def QuorumMoreUptoSaid : Prop := quorumMoreUptoRow.holds Try.pinned (OpenSpec.upto quorumMoreSpec)

/-- 'beaconrykeep.QuorumGifford', WHERE WHAT IT READS IS OF BULK AT MOST 1048576: true; the input reads as it did. -/
def quorumGiffordUptoRow : OpenClaim := { program := "ytgamppdfjbcbeaa", sum := "e92c6865624c413374374adff29c5d81f5a7ada403148849565b7570c724cecf", func := "beaconry/beaconrykeep.QuorumGifford", spec := "quorumGifford", unfollowed := true, recurses := true, apart := false, narrowed := true }
def QuorumGiffordUptoSaid : Prop := quorumGiffordUptoRow.holds Try.pinned (OpenSpec.upto quorumGiffordSpec)

end Rows
end Go.Proofs.Ytgamppdfjbcbeaa
