/-
  No cell of these rows narrows 'for every input' (looked for: loops, veiled, ifaces, maps, wideKeys, modest, calm, conditions, laid).
  DERIVED. THE GIVEN ROWS OF THIS SEAT. 6 by the template 'for every input the law returns true; each argument reads behind the call as it read before'; 0 by the template 'total and deterministic' (their statements: YtilnbebklchikaaTotals.lean).
  GIVEN WITH THE SEED: the statements are not yours to turn. If you find one false, say at which input.
  Laid BY PROGRAM, IN A SANDBOX (cutbox-rows.mjs): the forced cells as the released guide's own fill.sh prints them over the translation 9d13bce62ffa948f… (all of the seat's roots in one cut). By AI agents, Wed Nov 11 2026. No macro, syntax, notation, axiom, sorry.
-/
import Derived.Test.YtilnbebklchikaaChecked
import GoSem.Claim
import GoSem.ClaimJoined
import GoSem.ClaimMapViews
import Derived.JoinedTies
import Derived.KernelRfl
namespace Go.Proofs.Ytilnbebklchikaa
/- THE CELL 'sum', in the pinned program and in every row, IS THE sha256 OF THE DUMP (.gsa) THAT YtilnbebklchikaaProg.lean LOADS. Nothing in Lean hashes anything: it is a label: what it is worth is what the hold of that sum in a sandbox is worth. -/
noncomputable def Try.pinned : Pinned := { name := "ytilnbebklchikaa", sum := "9d13bce62ffa948f9adf3fd71307a4e437316a086cd7ef29da7e66fff98f886c", checked := Try.checked }
namespace Rows
def none {H : Type} : Left H := { results := [], args := [] }

/-- 'beaconrylaw.WaitAlls': WHATEVER THE INPUT: true; the input reads as it did. -/
def waitAllsSpec : ChangeSpec := { name := "waitAlls", fn := fun _ => fun
  | [d] => { results := [.lit (.bool true)], args := [d] }
  | _ => none }
def waitAllsRow : OpenClaim := { program := "ytilnbebklchikaa", sum := "9d13bce62ffa948f9adf3fd71307a4e437316a086cd7ef29da7e66fff98f886c", func := "beaconry/beaconrylaw.WaitAlls", spec := "waitAlls", unfollowed := true, recurses := true, apart := false }
def WaitAllsSaid : Prop := waitAllsRow.holds Try.pinned (OpenSpec.ofChange waitAllsSpec)

/-- ITS FALSE NEIGHBOUR: 'it returns false'. Refute it at one input. -/
def waitAllsWrong : ChangeSpec := { name := "waitAlls", fn := fun _ => fun
  | [d] => { results := [.lit (.bool false)], args := [d] }
  | _ => none }
def WaitAllsWrongFalsely : Prop := waitAllsRow.holds Try.pinned (OpenSpec.ofChange waitAllsWrong)

/-- 'beaconrylaw.WaitAnys': WHATEVER THE INPUT: true; the input reads as it did. -/
def waitAnysSpec : ChangeSpec := { name := "waitAnys", fn := fun _ => fun
  | [d] => { results := [.lit (.bool true)], args := [d] }
  | _ => none }
def waitAnysRow : OpenClaim := { program := "ytilnbebklchikaa", sum := "9d13bce62ffa948f9adf3fd71307a4e437316a086cd7ef29da7e66fff98f886c", func := "beaconry/beaconrylaw.WaitAnys", spec := "waitAnys", unfollowed := true, recurses := true, apart := false }
def WaitAnysSaid : Prop := waitAnysRow.holds Try.pinned (OpenSpec.ofChange waitAnysSpec)

/-- ITS FALSE NEIGHBOUR: 'it returns false'. Refute it at one input. -/
def waitAnysWrong : ChangeSpec := { name := "waitAnys", fn := fun _ => fun
  | [d] => { results := [.lit (.bool false)], args := [d] }
  | _ => none }
def WaitAnysWrongFalsely : Prop := waitAnysRow.holds Try.pinned (OpenSpec.ofChange waitAnysWrong)

/-- 'beaconrylaw.WaitProbes': WHATEVER THE INPUT: true; the input reads as it did. -/
def waitProbesSpec : ChangeSpec := { name := "waitProbes", fn := fun _ => fun
  | [d1, d2] => { results := [.lit (.bool true)], args := [d1, d2] }
  | _ => none }
def waitProbesRow : OpenClaim := { program := "ytilnbebklchikaa", sum := "9d13bce62ffa948f9adf3fd71307a4e437316a086cd7ef29da7e66fff98f886c", func := "beaconry/beaconrylaw.WaitProbes", spec := "waitProbes", unfollowed := true, recurses := true, apart := false }
def WaitProbesSaid : Prop := waitProbesRow.holds Try.pinned (OpenSpec.ofChange waitProbesSpec)

/-- ITS FALSE NEIGHBOUR: 'it returns false'. Refute it at one input. -/
def waitProbesWrong : ChangeSpec := { name := "waitProbes", fn := fun _ => fun
  | [d1, d2] => { results := [.lit (.bool false)], args := [d1, d2] }
  | _ => none }
def WaitProbesWrongFalsely : Prop := waitProbesRow.holds Try.pinned (OpenSpec.ofChange waitProbesWrong)

/-- 'beaconrykeep.WaitHolt': WHATEVER THE INPUT: true; the input reads as it did. -/
def waitHoltSpec : ChangeSpec := { name := "waitHolt", fn := fun _ => fun
  | [d] => { results := [.lit (.bool true)], args := [d] }
  | _ => none }
def waitHoltRow : OpenClaim := { program := "ytilnbebklchikaa", sum := "9d13bce62ffa948f9adf3fd71307a4e437316a086cd7ef29da7e66fff98f886c", func := "beaconry/beaconrykeep.WaitHolt", spec := "waitHolt", unfollowed := true, recurses := true, apart := false }
def WaitHoltSaid : Prop := waitHoltRow.holds Try.pinned (OpenSpec.ofChange waitHoltSpec)

/-- ITS FALSE NEIGHBOUR: 'it returns false'. Refute it at one input. -/
def waitHoltWrong : ChangeSpec := { name := "waitHolt", fn := fun _ => fun
  | [d] => { results := [.lit (.bool false)], args := [d] }
  | _ => none }
def WaitHoltWrongFalsely : Prop := waitHoltRow.holds Try.pinned (OpenSpec.ofChange waitHoltWrong)

/-- 'beaconrykeep.WaitProbe': WHATEVER THE INPUT: true; the input reads as it did. -/
def waitProbeSpec : ChangeSpec := { name := "waitProbe", fn := fun _ => fun
  | [d1, d2] => { results := [.lit (.bool true)], args := [d1, d2] }
  | _ => none }
def waitProbeRow : OpenClaim := { program := "ytilnbebklchikaa", sum := "9d13bce62ffa948f9adf3fd71307a4e437316a086cd7ef29da7e66fff98f886c", func := "beaconry/beaconrykeep.WaitProbe", spec := "waitProbe", unfollowed := true, recurses := true, apart := false }
def WaitProbeSaid : Prop := waitProbeRow.holds Try.pinned (OpenSpec.ofChange waitProbeSpec)

/-- ITS FALSE NEIGHBOUR: 'it returns false'. Refute it at one input. -/
def waitProbeWrong : ChangeSpec := { name := "waitProbe", fn := fun _ => fun
  | [d1, d2] => { results := [.lit (.bool false)], args := [d1, d2] }
  | _ => none }
def WaitProbeWrongFalsely : Prop := waitProbeRow.holds Try.pinned (OpenSpec.ofChange waitProbeWrong)

/-- 'beaconrykeep.WaitMore': WHATEVER THE INPUT: true; the input reads as it did. -/
def waitMoreSpec : ChangeSpec := { name := "waitMore", fn := fun _ => fun
  | [d1, d2, d3] => { results := [.lit (.bool true)], args := [d1, d2, d3] }
  | _ => none }
def waitMoreRow : OpenClaim := { program := "ytilnbebklchikaa", sum := "9d13bce62ffa948f9adf3fd71307a4e437316a086cd7ef29da7e66fff98f886c", func := "beaconry/beaconrykeep.WaitMore", spec := "waitMore", unfollowed := true, recurses := true, apart := false }
def WaitMoreSaid : Prop := waitMoreRow.holds Try.pinned (OpenSpec.ofChange waitMoreSpec)

/-- ITS FALSE NEIGHBOUR: 'it returns false'. Refute it at one input. -/
def waitMoreWrong : ChangeSpec := { name := "waitMore", fn := fun _ => fun
  | [d1, d2, d3] => { results := [.lit (.bool false)], args := [d1, d2, d3] }
  | _ => none }
def WaitMoreWrongFalsely : Prop := waitMoreRow.holds Try.pinned (OpenSpec.ofChange waitMoreWrong)

/- THE SECOND FORM. 'bulk': how many values and letters a reading holds, each counted each time it is reached (what is shared counts as often as it is met; a slice's spare places count too). A statement '..UptoSaid' is the law's where the arguments, and the package variables that the reading takes, are together of bulk at most 1048576: NARROWER than '..Said'. Prove '..Said' where nothing that the law and all that it calls make is longer than what came in: it says more and counts as full. Else prove '..UptoSaid'. A law counts once. -/
mutual
def uptoBulk {H : Type} : DataW H → Nat
  | .lit (.string bytes) => bytes.length + 1
  | .lit _ => 1
  | .nil => 1
  | .ptr d => uptoBulk d + 1
  | .slice elems spare => uptoBulkAll elems + uptoBulkAll spare + 1
  | .agg parts => uptoBulkAll parts + 1
  | .iface _ d => uptoBulk d + 1
  | .map entries => uptoBulkEntries entries + 1
  | .held _ => 1
def uptoBulkAll {H : Type} : List (DataW H) → Nat
  | [] => 0
  | d :: r => uptoBulk d + uptoBulkAll r
def uptoBulkEntries {H : Type} : List (Lit × DataW H) → Nat
  | [] => 0
  | x :: r => uptoBulkEntry x + uptoBulkEntries r
def uptoBulkEntry {H : Type} : Lit × DataW H → Nat
  | (.string bytes, d) => bytes.length + uptoBulk d + 1
  | (_, d) => uptoBulk d + 1
 end
def uptoSmall : (H : Type) → List (DataW H) → Bool := fun _ ds => decide (uptoBulkAll ds ≤ 1048576)
def OpenSpec.upto (s : _root_.Go.ChangeSpec) : _root_.Go.OpenSpec := { _root_.Go.OpenSpec.ofChange s with cond := some uptoSmall }

/-- 'beaconrylaw.WaitAlls', WHERE WHAT IT READS IS OF BULK AT MOST 1048576: true; the input reads as it did. -/
def waitAllsUptoRow : OpenClaim := { program := "ytilnbebklchikaa", sum := "9d13bce62ffa948f9adf3fd71307a4e437316a086cd7ef29da7e66fff98f886c", func := "beaconry/beaconrylaw.WaitAlls", spec := "waitAlls", unfollowed := true, recurses := true, apart := false, narrowed := true }
def WaitAllsUptoSaid : Prop := waitAllsUptoRow.holds Try.pinned (OpenSpec.upto waitAllsSpec)

/-- 'beaconrylaw.WaitAnys', WHERE WHAT IT READS IS OF BULK AT MOST 1048576: true; the input reads as it did. -/
def waitAnysUptoRow : OpenClaim := { program := "ytilnbebklchikaa", sum := "9d13bce62ffa948f9adf3fd71307a4e437316a086cd7ef29da7e66fff98f886c", func := "beaconry/beaconrylaw.WaitAnys", spec := "waitAnys", unfollowed := true, recurses := true, apart := false, narrowed := true }
def WaitAnysUptoSaid : Prop := waitAnysUptoRow.holds Try.pinned (OpenSpec.upto waitAnysSpec)

/-- 'beaconrylaw.WaitProbes', WHERE WHAT IT READS IS OF BULK AT MOST 1048576: true; the input reads as it did. -/
def waitProbesUptoRow : OpenClaim := { program := "ytilnbebklchikaa", sum := "9d13bce62ffa948f9adf3fd71307a4e437316a086cd7ef29da7e66fff98f886c", func := "beaconry/beaconrylaw.WaitProbes", spec := "waitProbes", unfollowed := true, recurses := true, apart := false, narrowed := true }
def WaitProbesUptoSaid : Prop := waitProbesUptoRow.holds Try.pinned (OpenSpec.upto waitProbesSpec)

/-- 'beaconrykeep.WaitHolt', WHERE WHAT IT READS IS OF BULK AT MOST 1048576: true; the input reads as it did. -/
def waitHoltUptoRow : OpenClaim := { program := "ytilnbebklchikaa", sum := "9d13bce62ffa948f9adf3fd71307a4e437316a086cd7ef29da7e66fff98f886c", func := "beaconry/beaconrykeep.WaitHolt", spec := "waitHolt", unfollowed := true, recurses := true, apart := false, narrowed := true }
def WaitHoltUptoSaid : Prop := waitHoltUptoRow.holds Try.pinned (OpenSpec.upto waitHoltSpec)

/-- 'beaconrykeep.WaitProbe', WHERE WHAT IT READS IS OF BULK AT MOST 1048576: true; the input reads as it did. -/
def waitProbeUptoRow : OpenClaim := { program := "ytilnbebklchikaa", sum := "9d13bce62ffa948f9adf3fd71307a4e437316a086cd7ef29da7e66fff98f886c", func := "beaconry/beaconrykeep.WaitProbe", spec := "waitProbe", unfollowed := true, recurses := true, apart := false, narrowed := true }
def WaitProbeUptoSaid : Prop := waitProbeUptoRow.holds Try.pinned (OpenSpec.upto waitProbeSpec)

/-- 'beaconrykeep.WaitMore', WHERE WHAT IT READS IS OF BULK AT MOST 1048576: true; the input reads as it did. -/
def waitMoreUptoRow : OpenClaim := { program := "ytilnbebklchikaa", sum := "9d13bce62ffa948f9adf3fd71307a4e437316a086cd7ef29da7e66fff98f886c", func := "beaconry/beaconrykeep.WaitMore", spec := "waitMore", unfollowed := true, recurses := true, apart := false, narrowed := true }
def WaitMoreUptoSaid : Prop := waitMoreUptoRow.holds Try.pinned (OpenSpec.upto waitMoreSpec)

end Rows
end Go.Proofs.Ytilnbebklchikaa
