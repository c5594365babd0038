/-
  No cell of these rows narrows 'for every input' (looked for: loops, veiled, ifaces, maps, wideKeys, modest, calm, conditions, laid).
  DERIVED. THE GIVEN ROWS OF THIS SEAT. 6 by the template 'for every input the law returns true; each argument reads behind the call as it read before'; 0 by the template 'total and deterministic' (their statements: YtiokfehckhbnaaaTotals.lean).
  GIVEN WITH THE SEED: the statements are not yours to turn. If you find one false, say at which input.
  Laid BY PROGRAM, IN A SANDBOX (cutbox-rows.mjs): the forced cells as the released guide's own fill.sh prints them over the translation 7b41794182b73311… (all of the seat's roots in one cut). By AI agents, Wed Nov 11 2026. No macro, syntax, notation, axiom, sorry.
-/
import Derived.Test.YtiokfehckhbnaaaChecked
import GoSem.Claim
import GoSem.ClaimJoined
import GoSem.ClaimMapViews
import Derived.JoinedTies
import Derived.KernelRfl
namespace Go.Proofs.Ytiokfehckhbnaaa
/- THE CELL 'sum', in the pinned program and in every row, IS THE sha256 OF THE DUMP (.gsa) THAT YtiokfehckhbnaaaProg.lean LOADS. Nothing in Lean hashes anything: it is a label: what it is worth is what the hold of that sum in a sandbox is worth. -/
noncomputable def Try.pinned : Pinned := { name := "ytiokfehckhbnaaa", sum := "7b41794182b73311cc723c59b5fb1b83562a3516a2f9688d6836796ebb5d42fa", checked := Try.checked }
namespace Rows
def none {H : Type} : Left H := { results := [], args := [] }

/-- 'beaconrylaw.TickTells': WHATEVER THE INPUT: true; the input reads as it did. -/
def tickTellsSpec : ChangeSpec := { name := "tickTells", fn := fun _ => fun
  | [d1, d2] => { results := [.lit (.bool true)], args := [d1, d2] }
  | _ => none }
def tickTellsRow : OpenClaim := { program := "ytiokfehckhbnaaa", sum := "7b41794182b73311cc723c59b5fb1b83562a3516a2f9688d6836796ebb5d42fa", func := "beaconry/beaconrylaw.TickTells", spec := "tickTells", apart := false }
def TickTellsSaid : Prop := tickTellsRow.holds Try.pinned (OpenSpec.ofChange tickTellsSpec)

/-- ITS FALSE NEIGHBOUR: 'it returns false'. Refute it at one input. -/
def tickTellsWrong : ChangeSpec := { name := "tickTells", fn := fun _ => fun
  | [d1, d2] => { results := [.lit (.bool false)], args := [d1, d2] }
  | _ => none }
def TickTellsWrongFalsely : Prop := tickTellsRow.holds Try.pinned (OpenSpec.ofChange tickTellsWrong)

/-- 'beaconrylaw.TickOrders': WHATEVER THE INPUT: true; the input reads as it did. -/
def tickOrdersSpec : ChangeSpec := { name := "tickOrders", fn := fun _ => fun
  | [d1, d2] => { results := [.lit (.bool true)], args := [d1, d2] }
  | _ => none }
def tickOrdersRow : OpenClaim := { program := "ytiokfehckhbnaaa", sum := "7b41794182b73311cc723c59b5fb1b83562a3516a2f9688d6836796ebb5d42fa", func := "beaconry/beaconrylaw.TickOrders", spec := "tickOrders", unfollowed := true, recurses := true, apart := false }
def TickOrdersSaid : Prop := tickOrdersRow.holds Try.pinned (OpenSpec.ofChange tickOrdersSpec)

/-- ITS FALSE NEIGHBOUR: 'it returns false'. Refute it at one input. -/
def tickOrdersWrong : ChangeSpec := { name := "tickOrders", fn := fun _ => fun
  | [d1, d2] => { results := [.lit (.bool false)], args := [d1, d2] }
  | _ => none }
def TickOrdersWrongFalsely : Prop := tickOrdersRow.holds Try.pinned (OpenSpec.ofChange tickOrdersWrong)

/-- 'beaconrylaw.TickLongests': WHATEVER THE INPUT: true; the input reads as it did. -/
def tickLongestsSpec : ChangeSpec := { name := "tickLongests", fn := fun _ => fun
  | [d1, d2] => { results := [.lit (.bool true)], args := [d1, d2] }
  | _ => none }
def tickLongestsRow : OpenClaim := { program := "ytiokfehckhbnaaa", sum := "7b41794182b73311cc723c59b5fb1b83562a3516a2f9688d6836796ebb5d42fa", func := "beaconry/beaconrylaw.TickLongests", spec := "tickLongests", unfollowed := true, recurses := true, apart := false }
def TickLongestsSaid : Prop := tickLongestsRow.holds Try.pinned (OpenSpec.ofChange tickLongestsSpec)

/-- ITS FALSE NEIGHBOUR: 'it returns false'. Refute it at one input. -/
def tickLongestsWrong : ChangeSpec := { name := "tickLongests", fn := fun _ => fun
  | [d1, d2] => { results := [.lit (.bool false)], args := [d1, d2] }
  | _ => none }
def TickLongestsWrongFalsely : Prop := tickLongestsRow.holds Try.pinned (OpenSpec.ofChange tickLongestsWrong)

/-- 'beaconrykeep.TickRises': WHATEVER THE INPUT: true; the input reads as it did. -/
def tickRisesSpec : ChangeSpec := { name := "tickRises", fn := fun _ => fun
  | [d1, d2, d3, d4] => { results := [.lit (.bool true)], args := [d1, d2, d3, d4] }
  | _ => none }
def tickRisesRow : OpenClaim := { program := "ytiokfehckhbnaaa", sum := "7b41794182b73311cc723c59b5fb1b83562a3516a2f9688d6836796ebb5d42fa", func := "beaconry/beaconrykeep.TickRises", spec := "tickRises", apart := false }
def TickRisesSaid : Prop := tickRisesRow.holds Try.pinned (OpenSpec.ofChange tickRisesSpec)

/-- ITS FALSE NEIGHBOUR: 'it returns false'. Refute it at one input. -/
def tickRisesWrong : ChangeSpec := { name := "tickRises", fn := fun _ => fun
  | [d1, d2, d3, d4] => { results := [.lit (.bool false)], args := [d1, d2, d3, d4] }
  | _ => none }
def TickRisesWrongFalsely : Prop := tickRisesRow.holds Try.pinned (OpenSpec.ofChange tickRisesWrong)

/-- 'beaconrykeep.TickOrder': WHATEVER THE INPUT: true; the input reads as it did. -/
def tickOrderSpec : ChangeSpec := { name := "tickOrder", fn := fun _ => fun
  | [d1, d2] => { results := [.lit (.bool true)], args := [d1, d2] }
  | _ => none }
def tickOrderRow : OpenClaim := { program := "ytiokfehckhbnaaa", sum := "7b41794182b73311cc723c59b5fb1b83562a3516a2f9688d6836796ebb5d42fa", func := "beaconry/beaconrykeep.TickOrder", spec := "tickOrder", unfollowed := true, recurses := true, apart := false }
def TickOrderSaid : Prop := tickOrderRow.holds Try.pinned (OpenSpec.ofChange tickOrderSpec)

/-- ITS FALSE NEIGHBOUR: 'it returns false'. Refute it at one input. -/
def tickOrderWrong : ChangeSpec := { name := "tickOrder", fn := fun _ => fun
  | [d1, d2] => { results := [.lit (.bool false)], args := [d1, d2] }
  | _ => none }
def TickOrderWrongFalsely : Prop := tickOrderRow.holds Try.pinned (OpenSpec.ofChange tickOrderWrong)

/-- 'beaconrykeep.TickMirsky': WHATEVER THE INPUT: true; the input reads as it did. -/
def tickMirskySpec : ChangeSpec := { name := "tickMirsky", fn := fun _ => fun
  | [d1, d2, d3, d4] => { results := [.lit (.bool true)], args := [d1, d2, d3, d4] }
  | _ => none }
def tickMirskyRow : OpenClaim := { program := "ytiokfehckhbnaaa", sum := "7b41794182b73311cc723c59b5fb1b83562a3516a2f9688d6836796ebb5d42fa", func := "beaconry/beaconrykeep.TickMirsky", spec := "tickMirsky", unfollowed := true, recurses := true, apart := false }
def TickMirskySaid : Prop := tickMirskyRow.holds Try.pinned (OpenSpec.ofChange tickMirskySpec)

/-- ITS FALSE NEIGHBOUR: 'it returns false'. Refute it at one input. -/
def tickMirskyWrong : ChangeSpec := { name := "tickMirsky", fn := fun _ => fun
  | [d1, d2, d3, d4] => { results := [.lit (.bool false)], args := [d1, d2, d3, d4] }
  | _ => none }
def TickMirskyWrongFalsely : Prop := tickMirskyRow.holds Try.pinned (OpenSpec.ofChange tickMirskyWrong)

/- THE SECOND FORM. 'bulk': how many values and letters a reading holds, each counted each time it is reached (what is shared counts as often as it is met; a slice's spare places count too). A statement '..UptoSaid' is the law's where the arguments, and the package variables that the reading takes, are together of bulk at most 1048576: NARROWER than '..Said'. Prove '..Said' where nothing that the law and all that it calls make is longer than what came in: it says more and counts as full. Else prove '..UptoSaid'. A law counts once. -/
mutual
def uptoBulk {H : Type} : DataW H → Nat
  | .lit (.string bytes) => bytes.length + 1
  | .lit _ => 1
  | .nil => 1
  | .ptr d => uptoBulk d + 1
  | .slice elems spare => uptoBulkAll elems + uptoBulkAll spare + 1
  | .agg parts => uptoBulkAll parts + 1
  | .iface _ d => uptoBulk d + 1
  | .map entries => uptoBulkEntries entries + 1
  | .held _ => 1
def uptoBulkAll {H : Type} : List (DataW H) → Nat
  | [] => 0
  | d :: r => uptoBulk d + uptoBulkAll r
def uptoBulkEntries {H : Type} : List (Lit × DataW H) → Nat
  | [] => 0
  | x :: r => uptoBulkEntry x + uptoBulkEntries r
def uptoBulkEntry {H : Type} : Lit × DataW H → Nat
  | (.string bytes, d) => bytes.length + uptoBulk d + 1
  | (_, d) => uptoBulk d + 1
 end
def uptoSmall : (H : Type) → List (DataW H) → Bool := fun _ ds => decide (uptoBulkAll ds ≤ 1048576)
def OpenSpec.upto (s : _root_.Go.ChangeSpec) : _root_.Go.OpenSpec := { _root_.Go.OpenSpec.ofChange s with cond := some uptoSmall }

/-- 'beaconrylaw.TickTells', WHERE WHAT IT READS IS OF BULK AT MOST 1048576: true; the input reads as it did. -/
def tickTellsUptoRow : OpenClaim := { program := "ytiokfehckhbnaaa", sum := "7b41794182b73311cc723c59b5fb1b83562a3516a2f9688d6836796ebb5d42fa", func := "beaconry/beaconrylaw.TickTells", spec := "tickTells", apart := false, narrowed := true }
def TickTellsUptoSaid : Prop := tickTellsUptoRow.holds Try.pinned (OpenSpec.upto tickTellsSpec)

/-- 'beaconrylaw.TickOrders', WHERE WHAT IT READS IS OF BULK AT MOST 1048576: true; the input reads as it did. -/
def tickOrdersUptoRow : OpenClaim := { program := "ytiokfehckhbnaaa", sum := "7b41794182b73311cc723c59b5fb1b83562a3516a2f9688d6836796ebb5d42fa", func := "beaconry/beaconrylaw.TickOrders", spec := "tickOrders", unfollowed := true, recurses := true, apart := false, narrowed := true }
def TickOrdersUptoSaid : Prop := tickOrdersUptoRow.holds Try.pinned (OpenSpec.upto tickOrdersSpec)

/-- 'beaconrylaw.TickLongests', WHERE WHAT IT READS IS OF BULK AT MOST 1048576: true; the input reads as it did. -/
def tickLongestsUptoRow : OpenClaim := { program := "ytiokfehckhbnaaa", sum := "7b41794182b73311cc723c59b5fb1b83562a3516a2f9688d6836796ebb5d42fa", func := "beaconry/beaconrylaw.TickLongests", spec := "tickLongests", unfollowed := true, recurses := true, apart := false, narrowed := true }
def TickLongestsUptoSaid : Prop := tickLongestsUptoRow.holds Try.pinned (OpenSpec.upto tickLongestsSpec)

/-- 'beaconrykeep.TickRises', WHERE WHAT IT READS IS OF BULK AT MOST 1048576: true; the input reads as it did. -/
def tickRisesUptoRow : OpenClaim := { program := "ytiokfehckhbnaaa", sum := "7b41794182b73311cc723c59b5fb1b83562a3516a2f9688d6836796ebb5d42fa", func := "beaconry/beaconrykeep.TickRises", spec := "tickRises", apart := false, narrowed := true }
def TickRisesUptoSaid : Prop := tickRisesUptoRow.holds Try.pinned (OpenSpec.upto tickRisesSpec)

/-- 'beaconrykeep.TickOrder', WHERE WHAT IT READS IS OF BULK AT MOST 1048576: true; the input reads as it did. -/
def tickOrderUptoRow : OpenClaim := { program := "ytiokfehckhbnaaa", sum := "7b41794182b73311cc723c59b5fb1b83562a3516a2f9688d6836796ebb5d42fa", func := "beaconry/beaconrykeep.TickOrder", spec := "tickOrder", unfollowed := true, recurses := true, apart := false, narrowed := true }
def TickOrderUptoSaid : Prop := tickOrderUptoRow.holds Try.pinned (OpenSpec.upto tickOrderSpec)

/-- 'beaconrykeep.TickMirsky', WHERE WHAT IT READS IS OF BULK AT MOST 1048576: true; the input reads as it did. -/
def tickMirskyUptoRow : OpenClaim := { program := "ytiokfehckhbnaaa", sum := "7b41794182b73311cc723c59b5fb1b83562a3516a2f9688d6836796ebb5d42fa", func := "beaconry/beaconrykeep.TickMirsky", spec := "tickMirsky", unfollowed := true, recurses := true, apart := false, narrowed := true }
def TickMirskyUptoSaid : Prop := tickMirskyUptoRow.holds Try.pinned (OpenSpec.upto tickMirskySpec)

end Rows
end Go.Proofs.Ytiokfehckhbnaaa
