/-
  No cell of these rows narrows 'for every input' (looked for: loops, veiled, ifaces, maps, wideKeys, modest, calm, conditions, laid).
  DERIVED. THE GIVEN ROWS OF THIS SEAT. 8 by the template 'for every input the law returns true; each argument reads behind the call as it read before'; 0 by the template 'total and deterministic' (their statements: YtpofmhlmaejmoaaTotals.lean).
  GIVEN WITH THE SEED: the statements are not yours to turn. If you find one false, say at which input.
  Laid BY PROGRAM, IN A SANDBOX (cutbox-rows.mjs): the forced cells as the released guide's own fill.sh prints them over the translation f9e3c3a532144c85… (all of the seat's roots in one cut). By AI agents, Wed Nov 11 2026. No macro, syntax, notation, axiom, sorry.
-/
import Derived.Test.YtpofmhlmaejmoaaChecked
import GoSem.Claim
import GoSem.ClaimJoined
import GoSem.ClaimMapViews
import Derived.JoinedTies
import Derived.KernelRfl
namespace Go.Proofs.Ytpofmhlmaejmoaa
/- THE CELL 'sum', in the pinned program and in every row, IS THE sha256 OF THE DUMP (.gsa) THAT YtpofmhlmaejmoaaProg.lean LOADS. Nothing in Lean hashes anything: it is a label: what it is worth is what the hold of that sum in a sandbox is worth. -/
noncomputable def Try.pinned : Pinned := { name := "ytpofmhlmaejmoaa", sum := "f9e3c3a532144c85cde90981daf3c631b87fb9b9e9c251ff1e68154735cd0b74", checked := Try.checked }
namespace Rows
def none {H : Type} : Left H := { results := [], args := [] }

/-- 'beaconrylaw.CutIs': WHATEVER THE INPUT: true; the input reads as it did. -/
def cutIsSpec : ChangeSpec := { name := "cutIs", fn := fun _ => fun
  | [d1, d2, d3] => { results := [.lit (.bool true)], args := [d1, d2, d3] }
  | _ => none }
def cutIsRow : OpenClaim := { program := "ytpofmhlmaejmoaa", sum := "f9e3c3a532144c85cde90981daf3c631b87fb9b9e9c251ff1e68154735cd0b74", func := "beaconry/beaconrylaw.CutIs", spec := "cutIs", plainKeys := false, apart := false }
def CutIsSaid : Prop := cutIsRow.holds Try.pinned (OpenSpec.ofChange cutIsSpec)

/-- ITS FALSE NEIGHBOUR: 'it returns false'. Refute it at one input. -/
def cutIsWrong : ChangeSpec := { name := "cutIs", fn := fun _ => fun
  | [d1, d2, d3] => { results := [.lit (.bool false)], args := [d1, d2, d3] }
  | _ => none }
def CutIsWrongFalsely : Prop := cutIsRow.holds Try.pinned (OpenSpec.ofChange cutIsWrong)

/-- 'beaconrylaw.CutWays': WHATEVER THE INPUT: true; the input reads as it did. -/
def cutWaysSpec : ChangeSpec := { name := "cutWays", fn := fun _ => fun
  | [d1, d2, d3] => { results := [.lit (.bool true)], args := [d1, d2, d3] }
  | _ => none }
def cutWaysRow : OpenClaim := { program := "ytpofmhlmaejmoaa", sum := "f9e3c3a532144c85cde90981daf3c631b87fb9b9e9c251ff1e68154735cd0b74", func := "beaconry/beaconrylaw.CutWays", spec := "cutWays", plainKeys := false, apart := false }
def CutWaysSaid : Prop := cutWaysRow.holds Try.pinned (OpenSpec.ofChange cutWaysSpec)

/-- ITS FALSE NEIGHBOUR: 'it returns false'. Refute it at one input. -/
def cutWaysWrong : ChangeSpec := { name := "cutWays", fn := fun _ => fun
  | [d1, d2, d3] => { results := [.lit (.bool false)], args := [d1, d2, d3] }
  | _ => none }
def CutWaysWrongFalsely : Prop := cutWaysRow.holds Try.pinned (OpenSpec.ofChange cutWaysWrong)

/-- 'beaconrylaw.CutManies': WHATEVER THE INPUT: true; the input reads as it did. -/
def cutManiesSpec : ChangeSpec := { name := "cutManies", fn := fun _ => fun
  | [d1, d2] => { results := [.lit (.bool true)], args := [d1, d2] }
  | _ => none }
def cutManiesRow : OpenClaim := { program := "ytpofmhlmaejmoaa", sum := "f9e3c3a532144c85cde90981daf3c631b87fb9b9e9c251ff1e68154735cd0b74", func := "beaconry/beaconrylaw.CutManies", spec := "cutManies", recurses := true, plainKeys := false, apart := false }
def CutManiesSaid : Prop := cutManiesRow.holds Try.pinned (OpenSpec.ofChange cutManiesSpec)

/-- ITS FALSE NEIGHBOUR: 'it returns false'. Refute it at one input. -/
def cutManiesWrong : ChangeSpec := { name := "cutManies", fn := fun _ => fun
  | [d1, d2] => { results := [.lit (.bool false)], args := [d1, d2] }
  | _ => none }
def CutManiesWrongFalsely : Prop := cutManiesRow.holds Try.pinned (OpenSpec.ofChange cutManiesWrong)

/-- 'beaconrylaw.CutLeasts': WHATEVER THE INPUT: true; the input reads as it did. -/
def cutLeastsSpec : ChangeSpec := { name := "cutLeasts", fn := fun _ => fun
  | [d1, d2, d3] => { results := [.lit (.bool true)], args := [d1, d2, d3] }
  | _ => none }
def cutLeastsRow : OpenClaim := { program := "ytpofmhlmaejmoaa", sum := "f9e3c3a532144c85cde90981daf3c631b87fb9b9e9c251ff1e68154735cd0b74", func := "beaconry/beaconrylaw.CutLeasts", spec := "cutLeasts", plainKeys := false, apart := false }
def CutLeastsSaid : Prop := cutLeastsRow.holds Try.pinned (OpenSpec.ofChange cutLeastsSpec)

/-- ITS FALSE NEIGHBOUR: 'it returns false'. Refute it at one input. -/
def cutLeastsWrong : ChangeSpec := { name := "cutLeasts", fn := fun _ => fun
  | [d1, d2, d3] => { results := [.lit (.bool false)], args := [d1, d2, d3] }
  | _ => none }
def CutLeastsWrongFalsely : Prop := cutLeastsRow.holds Try.pinned (OpenSpec.ofChange cutLeastsWrong)

/-- 'beaconrykeep.CutJoin': WHATEVER THE INPUT: true; the input reads as it did. -/
def cutJoinSpec : ChangeSpec := { name := "cutJoin", fn := fun _ => fun
  | [d1, d2, d3, d4] => { results := [.lit (.bool true)], args := [d1, d2, d3, d4] }
  | _ => none }
def cutJoinRow : OpenClaim := { program := "ytpofmhlmaejmoaa", sum := "f9e3c3a532144c85cde90981daf3c631b87fb9b9e9c251ff1e68154735cd0b74", func := "beaconry/beaconrykeep.CutJoin", spec := "cutJoin", plainKeys := false, apart := false }
def CutJoinSaid : Prop := cutJoinRow.holds Try.pinned (OpenSpec.ofChange cutJoinSpec)

/-- ITS FALSE NEIGHBOUR: 'it returns false'. Refute it at one input. -/
def cutJoinWrong : ChangeSpec := { name := "cutJoin", fn := fun _ => fun
  | [d1, d2, d3, d4] => { results := [.lit (.bool false)], args := [d1, d2, d3, d4] }
  | _ => none }
def CutJoinWrongFalsely : Prop := cutJoinRow.holds Try.pinned (OpenSpec.ofChange cutJoinWrong)

/-- 'beaconrykeep.CutLeast': WHATEVER THE INPUT: true; the input reads as it did. -/
def cutLeastSpec : ChangeSpec := { name := "cutLeast", fn := fun _ => fun
  | [d1, d2, d3, d4] => { results := [.lit (.bool true)], args := [d1, d2, d3, d4] }
  | _ => none }
def cutLeastRow : OpenClaim := { program := "ytpofmhlmaejmoaa", sum := "f9e3c3a532144c85cde90981daf3c631b87fb9b9e9c251ff1e68154735cd0b74", func := "beaconry/beaconrykeep.CutLeast", spec := "cutLeast", plainKeys := false, apart := false }
def CutLeastSaid : Prop := cutLeastRow.holds Try.pinned (OpenSpec.ofChange cutLeastSpec)

/-- ITS FALSE NEIGHBOUR: 'it returns false'. Refute it at one input. -/
def cutLeastWrong : ChangeSpec := { name := "cutLeast", fn := fun _ => fun
  | [d1, d2, d3, d4] => { results := [.lit (.bool false)], args := [d1, d2, d3, d4] }
  | _ => none }
def CutLeastWrongFalsely : Prop := cutLeastRow.holds Try.pinned (OpenSpec.ofChange cutLeastWrong)

/-- 'beaconrykeep.CutMany': WHATEVER THE INPUT: true; the input reads as it did. -/
def cutManySpec : ChangeSpec := { name := "cutMany", fn := fun _ => fun
  | [d1, d2] => { results := [.lit (.bool true)], args := [d1, d2] }
  | _ => none }
def cutManyRow : OpenClaim := { program := "ytpofmhlmaejmoaa", sum := "f9e3c3a532144c85cde90981daf3c631b87fb9b9e9c251ff1e68154735cd0b74", func := "beaconry/beaconrykeep.CutMany", spec := "cutMany", plainKeys := false, apart := false }
def CutManySaid : Prop := cutManyRow.holds Try.pinned (OpenSpec.ofChange cutManySpec)

/-- ITS FALSE NEIGHBOUR: 'it returns false'. Refute it at one input. -/
def cutManyWrong : ChangeSpec := { name := "cutMany", fn := fun _ => fun
  | [d1, d2] => { results := [.lit (.bool false)], args := [d1, d2] }
  | _ => none }
def CutManyWrongFalsely : Prop := cutManyRow.holds Try.pinned (OpenSpec.ofChange cutManyWrong)

/-- 'beaconrykeep.CutWay': WHATEVER THE INPUT: true; the input reads as it did. -/
def cutWaySpec : ChangeSpec := { name := "cutWay", fn := fun _ => fun
  | [d1, d2, d3] => { results := [.lit (.bool true)], args := [d1, d2, d3] }
  | _ => none }
def cutWayRow : OpenClaim := { program := "ytpofmhlmaejmoaa", sum := "f9e3c3a532144c85cde90981daf3c631b87fb9b9e9c251ff1e68154735cd0b74", func := "beaconry/beaconrykeep.CutWay", spec := "cutWay", plainKeys := false, apart := false }
def CutWaySaid : Prop := cutWayRow.holds Try.pinned (OpenSpec.ofChange cutWaySpec)

/-- ITS FALSE NEIGHBOUR: 'it returns false'. Refute it at one input. -/
def cutWayWrong : ChangeSpec := { name := "cutWay", fn := fun _ => fun
  | [d1, d2, d3] => { results := [.lit (.bool false)], args := [d1, d2, d3] }
  | _ => none }
def CutWayWrongFalsely : Prop := cutWayRow.holds Try.pinned (OpenSpec.ofChange cutWayWrong)

/- THE SECOND FORM. 'bulk': how many values and letters a reading holds, each counted each time it is reached (what is shared counts as often as it is met; a slice's spare places count too). A statement '..UptoSaid' is the law's where the arguments, and the package variables that the reading takes, are together of bulk at most 1048576: NARROWER than '..Said'. Prove '..Said' where nothing that the law and all that it calls make is longer than what came in: it says more and counts as full. Else prove '..UptoSaid'. A law counts once. -/
mutual
def uptoBulk {H : Type} : DataW H → Nat
  | .lit (.string bytes) => bytes.length + 1
  | .lit _ => 1
  | .nil => 1
  | .ptr d => uptoBulk d + 1
  | .slice elems spare => uptoBulkAll elems + uptoBulkAll spare + 1
  | .agg parts => uptoBulkAll parts + 1
  | .iface _ d => uptoBulk d + 1
  | .map entries => uptoBulkEntries entries + 1
  | .held _ => 1
def uptoBulkAll {H : Type} : List (DataW H) → Nat
  | [] => 0
  | d :: r => uptoBulk d + uptoBulkAll r
def uptoBulkEntries {H : Type} : List (Lit × DataW H) → Nat
  | [] => 0
  | x :: r => uptoBulkEntry x + uptoBulkEntries r
def uptoBulkEntry {H : Type} : Lit × DataW H → Nat
  | (.string bytes, d) => bytes.length + uptoBulk d + 1
  | (_, d) => uptoBulk d + 1
 end
def uptoSmall : (H : Type) → List (DataW H) → Bool := fun _ ds => decide (uptoBulkAll ds ≤ 1048576)
def OpenSpec.upto (s : _root_.Go.ChangeSpec) : _root_.Go.OpenSpec := { _root_.Go.OpenSpec.ofChange s with cond := some uptoSmall }

/-- 'beaconrylaw.CutIs', WHERE WHAT IT READS IS OF BULK AT MOST 1048576: true; the input reads as it did. -/
def cutIsUptoRow : OpenClaim := { program := "ytpofmhlmaejmoaa", sum := "f9e3c3a532144c85cde90981daf3c631b87fb9b9e9c251ff1e68154735cd0b74", func := "beaconry/beaconrylaw.CutIs", spec := "cutIs", plainKeys := false, apart := false, narrowed := true }
def CutIsUptoSaid : Prop := cutIsUptoRow.holds Try.pinned (OpenSpec.upto cutIsSpec)

/-- 'beaconrylaw.CutWays', WHERE WHAT IT READS IS OF BULK AT MOST 1048576: true; the input reads as it did. -/
def cutWaysUptoRow : OpenClaim := { program := "ytpofmhlmaejmoaa", sum := "f9e3c3a532144c85cde90981daf3c631b87fb9b9e9c251ff1e68154735cd0b74", func := "beaconry/beaconrylaw.CutWays", spec := "cutWays", plainKeys := false, apart := false, narrowed := true }
def CutWaysUptoSaid : Prop := cutWaysUptoRow.holds Try.pinned (OpenSpec.upto cutWaysSpec)

/-- 'beaconrylaw.CutManies', WHERE WHAT IT READS IS OF BULK AT MOST 1048576: true; the input reads as it did. -/
def cutManiesUptoRow : OpenClaim := { program := "ytpofmhlmaejmoaa", sum := "f9e3c3a532144c85cde90981daf3c631b87fb9b9e9c251ff1e68154735cd0b74", func := "beaconry/beaconrylaw.CutManies", spec := "cutManies", recurses := true, plainKeys := false, apart := false, narrowed := true }
def CutManiesUptoSaid : Prop := cutManiesUptoRow.holds Try.pinned (OpenSpec.upto cutManiesSpec)

/-- 'beaconrylaw.CutLeasts', WHERE WHAT IT READS IS OF BULK AT MOST 1048576: true; the input reads as it did. -/
def cutLeastsUptoRow : OpenClaim := { program := "ytpofmhlmaejmoaa", sum := "f9e3c3a532144c85cde90981daf3c631b87fb9b9e9c251ff1e68154735cd0b74", func := "beaconry/beaconrylaw.CutLeasts", spec := "cutLeasts", plainKeys := false, apart := false, narrowed := true }
def CutLeastsUptoSaid : Prop := cutLeastsUptoRow.holds Try.pinned (OpenSpec.upto cutLeastsSpec)

/-- 'beaconrykeep.CutJoin', WHERE WHAT IT READS IS OF BULK AT MOST 1048576: true; the input reads as it did. -/
def cutJoinUptoRow : OpenClaim := { program := "ytpofmhlmaejmoaa", sum := "f9e3c3a532144c85cde90981daf3c631b87fb9b9e9c251ff1e68154735cd0b74", func := "beaconry/beaconrykeep.CutJoin", spec := "cutJoin", plainKeys := false, apart := false, narrowed := true }
def CutJoinUptoSaid : Prop := cutJoinUptoRow.holds Try.pinned (OpenSpec.upto cutJoinSpec)

/-- 'beaconrykeep.CutLeast', WHERE WHAT IT READS IS OF BULK AT MOST 1048576: true; the input reads as it did. -/
def cutLeastUptoRow : OpenClaim := { program := "ytpofmhlmaejmoaa", sum := "f9e3c3a532144c85cde90981daf3c631b87fb9b9e9c251ff1e68154735cd0b74", func := "beaconry/beaconrykeep.CutLeast", spec := "cutLeast", plainKeys := false, apart := false, narrowed := true }
def CutLeastUptoSaid : Prop := cutLeastUptoRow.holds Try.pinned (OpenSpec.upto cutLeastSpec)

/-- 'beaconrykeep.CutMany', WHERE WHAT IT READS IS OF BULK AT MOST 1048576: true; the input reads as it did. -/
def cutManyUptoRow : OpenClaim := { program := "ytpofmhlmaejmoaa", sum := "f9e3c3a532144c85cde90981daf3c631b87fb9b9e9c251ff1e68154735cd0b74", func := "beaconry/beaconrykeep.CutMany", spec := "cutMany", plainKeys := false, apart := false, narrowed := true }
def CutManyUptoSaid : Prop := cutManyUptoRow.holds Try.pinned (OpenSpec.upto cutManySpec)

/-- 'beaconrykeep.CutWay', WHERE WHAT IT READS IS OF BULK AT MOST 1048576: true; the input reads as it did. -/
def cutWayUptoRow : OpenClaim := { program := "ytpofmhlmaejmoaa", sum := "f9e3c3a532144c85cde90981daf3c631b87fb9b9e9c251ff1e68154735cd0b74", func := "beaconry/beaconrykeep.CutWay", spec := "cutWay", plainKeys := false, apart := false, narrowed := true }
def CutWayUptoSaid : Prop := cutWayUptoRow.holds Try.pinned (OpenSpec.upto cutWaySpec)

end Rows
end Go.Proofs.Ytpofmhlmaejmoaa
