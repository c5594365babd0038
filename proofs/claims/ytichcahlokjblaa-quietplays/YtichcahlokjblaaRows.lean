/-
  No cell of these rows narrows 'for every input' (looked for: loops, veiled, ifaces, maps, wideKeys, modest, calm, conditions, laid).
  DERIVED. THE GIVEN ROWS OF THIS SEAT. 3 by the template 'for every input the law returns true; each argument reads behind the call as it read before'; 0 by the template 'total and deterministic' (their statements: YtichcahlokjblaaTotals.lean).
  GIVEN WITH THE SEED: the statements are not yours to turn. If you find one false, say at which input.
  Laid BY PROGRAM, IN A SANDBOX (cutbox-rows.mjs): the forced cells as the released guide's own fill.sh prints them over the translation 17325aee97787bd0… (all of the seat's roots in one cut). By AI agents, Wed Nov 11 2026. No macro, syntax, notation, axiom, sorry.
-/
import Derived.Test.YtichcahlokjblaaChecked
import GoSem.Claim
import GoSem.ClaimJoined
import GoSem.ClaimMapViews
import Derived.JoinedTies
import Derived.KernelRfl
namespace Go.Proofs.Ytichcahlokjblaa
/- THE CELL 'sum', in the pinned program and in every row, IS THE sha256 OF THE DUMP (.gsa) THAT YtichcahlokjblaaProg.lean LOADS. Nothing in Lean hashes anything: it is a label: what it is worth is what the hold of that sum in a sandbox is worth. -/
noncomputable def Try.pinned : Pinned := { name := "ytichcahlokjblaa", sum := "17325aee97787bd0daaf74f72040a7d3b731a0be957c31f26a7ff2958db4faee", checked := Try.checked }
namespace Rows
def none {H : Type} : Left H := { results := [], args := [] }

/-- 'beaconrylaw.QuietPlays': WHATEVER THE INPUT: true; the input reads as it did. -/
def quietPlaysSpec : ChangeSpec := { name := "quietPlays", fn := fun _ => fun
  | [d1, d2] => { results := [.lit (.bool true)], args := [d1, d2] }
  | _ => none }
def quietPlaysRow : OpenClaim := { program := "ytichcahlokjblaa", sum := "17325aee97787bd0daaf74f72040a7d3b731a0be957c31f26a7ff2958db4faee", func := "beaconry/beaconrylaw.QuietPlays", spec := "quietPlays", unfollowed := true, recurses := true, plainKeys := false, apart := false }
def QuietPlaysSaid : Prop := quietPlaysRow.holds Try.pinned (OpenSpec.ofChange quietPlaysSpec)

/-- ITS FALSE NEIGHBOUR: 'it returns false'. Refute it at one input. -/
def quietPlaysWrong : ChangeSpec := { name := "quietPlays", fn := fun _ => fun
  | [d1, d2] => { results := [.lit (.bool false)], args := [d1, d2] }
  | _ => none }
def QuietPlaysWrongFalsely : Prop := quietPlaysRow.holds Try.pinned (OpenSpec.ofChange quietPlaysWrong)

/-- 'beaconrykeep.QuietSafe': WHATEVER THE INPUT: true; the input reads as it did. -/
def quietSafeSpec : ChangeSpec := { name := "quietSafe", fn := fun _ => fun
  | [d1, d2] => { results := [.lit (.bool true)], args := [d1, d2] }
  | _ => none }
def quietSafeRow : OpenClaim := { program := "ytichcahlokjblaa", sum := "17325aee97787bd0daaf74f72040a7d3b731a0be957c31f26a7ff2958db4faee", func := "beaconry/beaconrykeep.QuietSafe", spec := "quietSafe", recurses := true, plainKeys := false, apart := false }
def QuietSafeSaid : Prop := quietSafeRow.holds Try.pinned (OpenSpec.ofChange quietSafeSpec)

/-- ITS FALSE NEIGHBOUR: 'it returns false'. Refute it at one input. -/
def quietSafeWrong : ChangeSpec := { name := "quietSafe", fn := fun _ => fun
  | [d1, d2] => { results := [.lit (.bool false)], args := [d1, d2] }
  | _ => none }
def QuietSafeWrongFalsely : Prop := quietSafeRow.holds Try.pinned (OpenSpec.ofChange quietSafeWrong)

/-- 'beaconrykeep.QuietStays': WHATEVER THE INPUT: true; the input reads as it did. -/
def quietStaysSpec : ChangeSpec := { name := "quietStays", fn := fun _ => fun
  | [d1, d2, d3] => { results := [.lit (.bool true)], args := [d1, d2, d3] }
  | _ => none }
def quietStaysRow : OpenClaim := { program := "ytichcahlokjblaa", sum := "17325aee97787bd0daaf74f72040a7d3b731a0be957c31f26a7ff2958db4faee", func := "beaconry/beaconrykeep.QuietStays", spec := "quietStays", recurses := true, plainKeys := false, apart := false }
def QuietStaysSaid : Prop := quietStaysRow.holds Try.pinned (OpenSpec.ofChange quietStaysSpec)

/-- ITS FALSE NEIGHBOUR: 'it returns false'. Refute it at one input. -/
def quietStaysWrong : ChangeSpec := { name := "quietStays", fn := fun _ => fun
  | [d1, d2, d3] => { results := [.lit (.bool false)], args := [d1, d2, d3] }
  | _ => none }
def QuietStaysWrongFalsely : Prop := quietStaysRow.holds Try.pinned (OpenSpec.ofChange quietStaysWrong)

/- THE SECOND FORM. 'bulk': how many values and letters a reading holds, each counted each time it is reached (what is shared counts as often as it is met; a slice's spare places count too). A statement '..UptoSaid' is the law's where the arguments, and the package variables that the reading takes, are together of bulk at most 1048576: NARROWER than '..Said'. Prove '..Said' where nothing that the law and all that it calls make is longer than what came in: it says more and counts as full. Else prove '..UptoSaid'. A law counts once. -/
mutual
def uptoBulk {H : Type} : DataW H → Nat
  | .lit (.string bytes) => bytes.length + 1
  | .lit _ => 1
  | .nil => 1
  | .ptr d => uptoBulk d + 1
  | .slice elems spare => uptoBulkAll elems + uptoBulkAll spare + 1
  | .agg parts => uptoBulkAll parts + 1
  | .iface _ d => uptoBulk d + 1
  | .map entries => uptoBulkEntries entries + 1
  | .held _ => 1
def uptoBulkAll {H : Type} : List (DataW H) → Nat
  | [] => 0
  | d :: r => uptoBulk d + uptoBulkAll r
def uptoBulkEntries {H : Type} : List (Lit × DataW H) → Nat
  | [] => 0
  | x :: r => uptoBulkEntry x + uptoBulkEntries r
def uptoBulkEntry {H : Type} : Lit × DataW H → Nat
  | (.string bytes, d) => bytes.length + uptoBulk d + 1
  | (_, d) => uptoBulk d + 1
 end
def uptoSmall : (H : Type) → List (DataW H) → Bool := fun _ ds => decide (uptoBulkAll ds ≤ 1048576)
def OpenSpec.upto (s : _root_.Go.ChangeSpec) : _root_.Go.OpenSpec := { _root_.Go.OpenSpec.ofChange s with cond := some uptoSmall }

/-- 'beaconrylaw.QuietPlays', WHERE WHAT IT READS IS OF BULK AT MOST 1048576: true; the input reads as it did. -/
def quietPlaysUptoRow : OpenClaim := { program := "ytichcahlokjblaa", sum := "17325aee97787bd0daaf74f72040a7d3b731a0be957c31f26a7ff2958db4faee", func := "beaconry/beaconrylaw.QuietPlays", spec := "quietPlays", unfollowed := true, recurses := true, plainKeys := false, apart := false, narrowed := true }
def QuietPlaysUptoSaid : Prop := quietPlaysUptoRow.holds Try.pinned (OpenSpec.upto quietPlaysSpec)

/-- 'beaconrykeep.QuietSafe', WHERE WHAT IT READS IS OF BULK AT MOST 1048576: true; the input reads as it did. -/
def quietSafeUptoRow : OpenClaim := { program := "ytichcahlokjblaa", sum := "17325aee97787bd0daaf74f72040a7d3b731a0be957c31f26a7ff2958db4faee", func := "beaconry/beaconrykeep.QuietSafe", spec := "quietSafe", recurses := true, plainKeys := false, apart := false, narrowed := true }
def QuietSafeUptoSaid : Prop := quietSafeUptoRow.holds Try.pinned (OpenSpec.upto quietSafeSpec)

/-- 'beaconrykeep.QuietStays', WHERE WHAT IT READS IS OF BULK AT MOST 1048576: true; the input reads as it did. -/
def quietStaysUptoRow : OpenClaim := { program := "ytichcahlokjblaa", sum := "17325aee97787bd0daaf74f72040a7d3b731a0be957c31f26a7ff2958db4faee", func := "beaconry/beaconrykeep.QuietStays", spec := "quietStays", recurses := true, plainKeys := false, apart := false, narrowed := true }
def QuietStaysUptoSaid : Prop := quietStaysUptoRow.holds Try.pinned (OpenSpec.upto quietStaysSpec)

end Rows
end Go.Proofs.Ytichcahlokjblaa
