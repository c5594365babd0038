/-
  No cell of these rows narrows 'for every input' (looked for: loops, veiled, ifaces, maps, wideKeys, modest, calm, conditions, laid).
  DERIVED. THE GIVEN ROWS OF THIS SEAT. 7 by the template 'for every input the law returns true; each argument reads behind the call as it read before'; 0 by the template 'total and deterministic' (their statements: YtcmfpnghejapbaaTotals.lean).
  GIVEN WITH THE SEED: the statements are not yours to turn. If you find one false, say at which input.
  Laid BY PROGRAM, IN A SANDBOX (cutbox-rows.mjs): the forced cells as the released guide's own fill.sh prints them over the translation 3f3a5ef7ddcb7ae2… (all of the seat's roots in one cut). By AI agents, Wed Nov 11 2026. No macro, syntax, notation, axiom, sorry.
-/
import Derived.Test.YtcmfpnghejapbaaChecked
import GoSem.Claim
import GoSem.ClaimJoined
import GoSem.ClaimMapViews
import Derived.JoinedTies
import Derived.KernelRfl
namespace Go.Proofs.Ytcmfpnghejapbaa
/- THE CELL 'sum', in the pinned program and in every row, IS THE sha256 OF THE DUMP (.gsa) THAT YtcmfpnghejapbaaProg.lean LOADS. Nothing in Lean hashes anything: it is a label: what it is worth is what the hold of that sum in a sandbox is worth. -/
noncomputable def Try.pinned : Pinned := { name := "ytcmfpnghejapbaa", sum := "3f3a5ef7ddcb7ae2808f5c33fa21ca8ed4cefd1baaf99566a327aac4692d2b02", checked := Try.checked }
namespace Rows
def none {H : Type} : Left H := { results := [], args := [] }

/-- 'beaconrylaw.RingLeads': WHATEVER THE INPUT: true; the input reads as it did. -/
def ringLeadsSpec : ChangeSpec := { name := "ringLeads", fn := fun _ => fun
  | [d1, d2] => { results := [.lit (.bool true)], args := [d1, d2] }
  | _ => none }
def ringLeadsRow : OpenClaim := { program := "ytcmfpnghejapbaa", sum := "3f3a5ef7ddcb7ae2808f5c33fa21ca8ed4cefd1baaf99566a327aac4692d2b02", func := "beaconry/beaconrylaw.RingLeads", spec := "ringLeads", apart := false }
def RingLeadsSaid : Prop := ringLeadsRow.holds Try.pinned (OpenSpec.ofChange ringLeadsSpec)

/-- ITS FALSE NEIGHBOUR: 'it returns false'. Refute it at one input. -/
def ringLeadsWrong : ChangeSpec := { name := "ringLeads", fn := fun _ => fun
  | [d1, d2] => { results := [.lit (.bool false)], args := [d1, d2] }
  | _ => none }
def RingLeadsWrongFalsely : Prop := ringLeadsRow.holds Try.pinned (OpenSpec.ofChange ringLeadsWrong)

/-- 'beaconrylaw.RingHalf': WHATEVER THE INPUT: true; the input reads as it did. -/
def ringHalfSpec : ChangeSpec := { name := "ringHalf", fn := fun _ => fun
  | [d] => { results := [.lit (.bool true)], args := [d] }
  | _ => none }
def ringHalfRow : OpenClaim := { program := "ytcmfpnghejapbaa", sum := "3f3a5ef7ddcb7ae2808f5c33fa21ca8ed4cefd1baaf99566a327aac4692d2b02", func := "beaconry/beaconrylaw.RingHalf", spec := "ringHalf", apart := false }
def RingHalfSaid : Prop := ringHalfRow.holds Try.pinned (OpenSpec.ofChange ringHalfSpec)

/-- ITS FALSE NEIGHBOUR: 'it returns false'. Refute it at one input. -/
def ringHalfWrong : ChangeSpec := { name := "ringHalf", fn := fun _ => fun
  | [d] => { results := [.lit (.bool false)], args := [d] }
  | _ => none }
def RingHalfWrongFalsely : Prop := ringHalfRow.holds Try.pinned (OpenSpec.ofChange ringHalfWrong)

/-- 'beaconrylaw.RingHalves': WHATEVER THE INPUT: true; the input reads as it did. -/
def ringHalvesSpec : ChangeSpec := { name := "ringHalves", fn := fun _ => fun
  | [d] => { results := [.lit (.bool true)], args := [d] }
  | _ => none }
def ringHalvesRow : OpenClaim := { program := "ytcmfpnghejapbaa", sum := "3f3a5ef7ddcb7ae2808f5c33fa21ca8ed4cefd1baaf99566a327aac4692d2b02", func := "beaconry/beaconrylaw.RingHalves", spec := "ringHalves", apart := false }
def RingHalvesSaid : Prop := ringHalvesRow.holds Try.pinned (OpenSpec.ofChange ringHalvesSpec)

/-- ITS FALSE NEIGHBOUR: 'it returns false'. Refute it at one input. -/
def ringHalvesWrong : ChangeSpec := { name := "ringHalves", fn := fun _ => fun
  | [d] => { results := [.lit (.bool false)], args := [d] }
  | _ => none }
def RingHalvesWrongFalsely : Prop := ringHalvesRow.holds Try.pinned (OpenSpec.ofChange ringHalvesWrong)

/-- 'beaconrykeep.RingGreatest': WHATEVER THE INPUT: true; the input reads as it did. -/
def ringGreatestSpec : ChangeSpec := { name := "ringGreatest", fn := fun _ => fun
  | [d1, d2] => { results := [.lit (.bool true)], args := [d1, d2] }
  | _ => none }
def ringGreatestRow : OpenClaim := { program := "ytcmfpnghejapbaa", sum := "3f3a5ef7ddcb7ae2808f5c33fa21ca8ed4cefd1baaf99566a327aac4692d2b02", func := "beaconry/beaconrykeep.RingGreatest", spec := "ringGreatest", apart := false }
def RingGreatestSaid : Prop := ringGreatestRow.holds Try.pinned (OpenSpec.ofChange ringGreatestSpec)

/-- ITS FALSE NEIGHBOUR: 'it returns false'. Refute it at one input. -/
def ringGreatestWrong : ChangeSpec := { name := "ringGreatest", fn := fun _ => fun
  | [d1, d2] => { results := [.lit (.bool false)], args := [d1, d2] }
  | _ => none }
def RingGreatestWrongFalsely : Prop := ringGreatestRow.holds Try.pinned (OpenSpec.ofChange ringGreatestWrong)

/-- 'beaconrykeep.RingMany': WHATEVER THE INPUT: true; the input reads as it did. -/
def ringManySpec : ChangeSpec := { name := "ringMany", fn := fun _ => fun
  | [d1, d2] => { results := [.lit (.bool true)], args := [d1, d2] }
  | _ => none }
def ringManyRow : OpenClaim := { program := "ytcmfpnghejapbaa", sum := "3f3a5ef7ddcb7ae2808f5c33fa21ca8ed4cefd1baaf99566a327aac4692d2b02", func := "beaconry/beaconrykeep.RingMany", spec := "ringMany", apart := false }
def RingManySaid : Prop := ringManyRow.holds Try.pinned (OpenSpec.ofChange ringManySpec)

/-- ITS FALSE NEIGHBOUR: 'it returns false'. Refute it at one input. -/
def ringManyWrong : ChangeSpec := { name := "ringMany", fn := fun _ => fun
  | [d1, d2] => { results := [.lit (.bool false)], args := [d1, d2] }
  | _ => none }
def RingManyWrongFalsely : Prop := ringManyRow.holds Try.pinned (OpenSpec.ofChange ringManyWrong)

/-- 'beaconrykeep.RingFew': WHATEVER THE INPUT: true; the input reads as it did. -/
def ringFewSpec : ChangeSpec := { name := "ringFew", fn := fun _ => fun
  | [d] => { results := [.lit (.bool true)], args := [d] }
  | _ => none }
def ringFewRow : OpenClaim := { program := "ytcmfpnghejapbaa", sum := "3f3a5ef7ddcb7ae2808f5c33fa21ca8ed4cefd1baaf99566a327aac4692d2b02", func := "beaconry/beaconrykeep.RingFew", spec := "ringFew", apart := false }
def RingFewSaid : Prop := ringFewRow.holds Try.pinned (OpenSpec.ofChange ringFewSpec)

/-- ITS FALSE NEIGHBOUR: 'it returns false'. Refute it at one input. -/
def ringFewWrong : ChangeSpec := { name := "ringFew", fn := fun _ => fun
  | [d] => { results := [.lit (.bool false)], args := [d] }
  | _ => none }
def RingFewWrongFalsely : Prop := ringFewRow.holds Try.pinned (OpenSpec.ofChange ringFewWrong)

/-- 'beaconrykeep.RingSoon': WHATEVER THE INPUT: true; the input reads as it did. -/
def ringSoonSpec : ChangeSpec := { name := "ringSoon", fn := fun _ => fun
  | [d] => { results := [.lit (.bool true)], args := [d] }
  | _ => none }
def ringSoonRow : OpenClaim := { program := "ytcmfpnghejapbaa", sum := "3f3a5ef7ddcb7ae2808f5c33fa21ca8ed4cefd1baaf99566a327aac4692d2b02", func := "beaconry/beaconrykeep.RingSoon", spec := "ringSoon", apart := false }
def RingSoonSaid : Prop := ringSoonRow.holds Try.pinned (OpenSpec.ofChange ringSoonSpec)

/-- ITS FALSE NEIGHBOUR: 'it returns false'. Refute it at one input. -/
def ringSoonWrong : ChangeSpec := { name := "ringSoon", fn := fun _ => fun
  | [d] => { results := [.lit (.bool false)], args := [d] }
  | _ => none }
def RingSoonWrongFalsely : Prop := ringSoonRow.holds Try.pinned (OpenSpec.ofChange ringSoonWrong)

/- THE SECOND FORM. 'bulk': how many values and letters a reading holds, each counted each time it is reached (what is shared counts as often as it is met; a slice's spare places count too). A statement '..UptoSaid' is the law's where the arguments, and the package variables that the reading takes, are together of bulk at most 1048576: NARROWER than '..Said'. Prove '..Said' where nothing that the law and all that it calls make is longer than what came in: it says more and counts as full. Else prove '..UptoSaid'. A law counts once. -/
mutual
def uptoBulk {H : Type} : DataW H → Nat
  | .lit (.string bytes) => bytes.length + 1
  | .lit _ => 1
  | .nil => 1
  | .ptr d => uptoBulk d + 1
  | .slice elems spare => uptoBulkAll elems + uptoBulkAll spare + 1
  | .agg parts => uptoBulkAll parts + 1
  | .iface _ d => uptoBulk d + 1
  | .map entries => uptoBulkEntries entries + 1
  | .held _ => 1
def uptoBulkAll {H : Type} : List (DataW H) → Nat
  | [] => 0
  | d :: r => uptoBulk d + uptoBulkAll r
def uptoBulkEntries {H : Type} : List (Lit × DataW H) → Nat
  | [] => 0
  | x :: r => uptoBulkEntry x + uptoBulkEntries r
def uptoBulkEntry {H : Type} : Lit × DataW H → Nat
  | (.string bytes, d) => bytes.length + uptoBulk d + 1
  | (_, d) => uptoBulk d + 1
 end
def uptoSmall : (H : Type) → List (DataW H) → Bool := fun _ ds => decide (uptoBulkAll ds ≤ 1048576)
def OpenSpec.upto (s : _root_.Go.ChangeSpec) : _root_.Go.OpenSpec := { _root_.Go.OpenSpec.ofChange s with cond := some uptoSmall }

/-- 'beaconrylaw.RingLeads', WHERE WHAT IT READS IS OF BULK AT MOST 1048576: true; the input reads as it did. -/
def ringLeadsUptoRow : OpenClaim := { program := "ytcmfpnghejapbaa", sum := "3f3a5ef7ddcb7ae2808f5c33fa21ca8ed4cefd1baaf99566a327aac4692d2b02", func := "beaconry/beaconrylaw.RingLeads", spec := "ringLeads", apart := false, narrowed := true }
def RingLeadsUptoSaid : Prop := ringLeadsUptoRow.holds Try.pinned (OpenSpec.upto ringLeadsSpec)

/-- 'beaconrylaw.RingHalf', WHERE WHAT IT READS IS OF BULK AT MOST 1048576: true; the input reads as it did. -/
def ringHalfUptoRow : OpenClaim := { program := "ytcmfpnghejapbaa", sum := "3f3a5ef7ddcb7ae2808f5c33fa21ca8ed4cefd1baaf99566a327aac4692d2b02", func := "beaconry/beaconrylaw.RingHalf", spec := "ringHalf", apart := false, narrowed := true }
def RingHalfUptoSaid : Prop := ringHalfUptoRow.holds Try.pinned (OpenSpec.upto ringHalfSpec)

/-- 'beaconrylaw.RingHalves', WHERE WHAT IT READS IS OF BULK AT MOST 1048576: true; the input reads as it did. -/
def ringHalvesUptoRow : OpenClaim := { program := "ytcmfpnghejapbaa", sum := "3f3a5ef7ddcb7ae2808f5c33fa21ca8ed4cefd1baaf99566a327aac4692d2b02", func := "beaconry/beaconrylaw.RingHalves", spec := "ringHalves", apart := false, narrowed := true }
def RingHalvesUptoSaid : Prop := ringHalvesUptoRow.holds Try.pinned (OpenSpec.upto ringHalvesSpec)

/-- 'beaconrykeep.RingGreatest', WHERE WHAT IT READS IS OF BULK AT MOST 1048576: true; the input reads as it did. -/
def ringGreatestUptoRow : OpenClaim := { program := "ytcmfpnghejapbaa", sum := "3f3a5ef7ddcb7ae2808f5c33fa21ca8ed4cefd1baaf99566a327aac4692d2b02", func := "beaconry/beaconrykeep.RingGreatest", spec := "ringGreatest", apart := false, narrowed := true }
def RingGreatestUptoSaid : Prop := ringGreatestUptoRow.holds Try.pinned (OpenSpec.upto ringGreatestSpec)

/-- 'beaconrykeep.RingMany', WHERE WHAT IT READS IS OF BULK AT MOST 1048576: true; the input reads as it did. -/
def ringManyUptoRow : OpenClaim := { program := "ytcmfpnghejapbaa", sum := "3f3a5ef7ddcb7ae2808f5c33fa21ca8ed4cefd1baaf99566a327aac4692d2b02", func := "beaconry/beaconrykeep.RingMany", spec := "ringMany", apart := false, narrowed := true }
def RingManyUptoSaid : Prop := ringManyUptoRow.holds Try.pinned (OpenSpec.upto ringManySpec)

/-- 'beaconrykeep.RingFew', WHERE WHAT IT READS IS OF BULK AT MOST 1048576: true; the input reads as it did. -/
def ringFewUptoRow : OpenClaim := { program := "ytcmfpnghejapbaa", sum := "3f3a5ef7ddcb7ae2808f5c33fa21ca8ed4cefd1baaf99566a327aac4692d2b02", func := "beaconry/beaconrykeep.RingFew", spec := "ringFew", apart := false, narrowed := true }
def RingFewUptoSaid : Prop := ringFewUptoRow.holds Try.pinned (OpenSpec.upto ringFewSpec)

/-- 'beaconrykeep.RingSoon', WHERE WHAT IT READS IS OF BULK AT MOST 1048576: true; the input reads as it did. -/
def ringSoonUptoRow : OpenClaim := { program := "ytcmfpnghejapbaa", sum := "3f3a5ef7ddcb7ae2808f5c33fa21ca8ed4cefd1baaf99566a327aac4692d2b02", func := "beaconry/beaconrykeep.RingSoon", spec := "ringSoon", apart := false, narrowed := true }
def RingSoonUptoSaid : Prop := ringSoonUptoRow.holds Try.pinned (OpenSpec.upto ringSoonSpec)

end Rows
end Go.Proofs.Ytcmfpnghejapbaa
