/-
  No cell of these rows narrows 'for every input' (looked for: loops, veiled, ifaces, maps, wideKeys, modest, calm, conditions, laid).
  DERIVED. THE GIVEN ROWS OF THIS SEAT. 4 by the template 'for every input the law returns true; each argument reads behind the call as it read before'; 0 by the template 'total and deterministic' (their statements: YtejckoffllhjcaaTotals.lean).
  GIVEN WITH THE SEED: the statements are not yours to turn. If you find one false, say at which input.
  Laid BY PROGRAM, IN A SANDBOX (cutbox-rows.mjs): the forced cells as the released guide's own fill.sh prints them over the translation 5f762d375162ce24… (all of the seat's roots in one cut). By AI agents, Wed Nov 11 2026. No macro, syntax, notation, axiom, sorry.
-/
import Derived.Test.YtejckoffllhjcaaChecked
import GoSem.Claim
import GoSem.ClaimJoined
import GoSem.ClaimMapViews
import Derived.JoinedTies
import Derived.KernelRfl
namespace Go.Proofs.Ytejckoffllhjcaa
/- THE CELL 'sum', in the pinned program and in every row, IS THE sha256 OF THE DUMP (.gsa) THAT YtejckoffllhjcaaProg.lean LOADS. Nothing in Lean hashes anything: it is a label: what it is worth is what the hold of that sum in a sandbox is worth. -/
noncomputable def Try.pinned : Pinned := { name := "ytejckoffllhjcaa", sum := "5f762d375162ce243dbbaf36b43192b2031d9594fdf9022cc657e0f1527fe571", checked := Try.checked }
namespace Rows
def none {H : Type} : Left H := { results := [], args := [] }

/-- 'beaconrylaw.TokenPlays': WHATEVER THE INPUT: true; the input reads as it did. -/
def tokenPlaysSpec : ChangeSpec := { name := "tokenPlays", fn := fun _ => fun
  | [d1, d2] => { results := [.lit (.bool true)], args := [d1, d2] }
  | _ => none }
def tokenPlaysRow : OpenClaim := { program := "ytejckoffllhjcaa", sum := "5f762d375162ce243dbbaf36b43192b2031d9594fdf9022cc657e0f1527fe571", func := "beaconry/beaconrylaw.TokenPlays", spec := "tokenPlays", unfollowed := true, recurses := true, plainKeys := false, apart := false }
def TokenPlaysSaid : Prop := tokenPlaysRow.holds Try.pinned (OpenSpec.ofChange tokenPlaysSpec)

/-- ITS FALSE NEIGHBOUR: 'it returns false'. Refute it at one input. -/
def tokenPlaysWrong : ChangeSpec := { name := "tokenPlays", fn := fun _ => fun
  | [d1, d2] => { results := [.lit (.bool false)], args := [d1, d2] }
  | _ => none }
def TokenPlaysWrongFalsely : Prop := tokenPlaysRow.holds Try.pinned (OpenSpec.ofChange tokenPlaysWrong)

/-- 'beaconrykeep.TokenOne': WHATEVER THE INPUT: true; the input reads as it did. -/
def tokenOneSpec : ChangeSpec := { name := "tokenOne", fn := fun _ => fun
  | [d1, d2] => { results := [.lit (.bool true)], args := [d1, d2] }
  | _ => none }
def tokenOneRow : OpenClaim := { program := "ytejckoffllhjcaa", sum := "5f762d375162ce243dbbaf36b43192b2031d9594fdf9022cc657e0f1527fe571", func := "beaconry/beaconrykeep.TokenOne", spec := "tokenOne", unfollowed := true, recurses := true, plainKeys := false, apart := false }
def TokenOneSaid : Prop := tokenOneRow.holds Try.pinned (OpenSpec.ofChange tokenOneSpec)

/-- ITS FALSE NEIGHBOUR: 'it returns false'. Refute it at one input. -/
def tokenOneWrong : ChangeSpec := { name := "tokenOne", fn := fun _ => fun
  | [d1, d2] => { results := [.lit (.bool false)], args := [d1, d2] }
  | _ => none }
def TokenOneWrongFalsely : Prop := tokenOneRow.holds Try.pinned (OpenSpec.ofChange tokenOneWrong)

/-- 'beaconrykeep.TokenGoes': WHATEVER THE INPUT: true; the input reads as it did. -/
def tokenGoesSpec : ChangeSpec := { name := "tokenGoes", fn := fun _ => fun
  | [d1, d2] => { results := [.lit (.bool true)], args := [d1, d2] }
  | _ => none }
def tokenGoesRow : OpenClaim := { program := "ytejckoffllhjcaa", sum := "5f762d375162ce243dbbaf36b43192b2031d9594fdf9022cc657e0f1527fe571", func := "beaconry/beaconrykeep.TokenGoes", spec := "tokenGoes", unfollowed := true, recurses := true, plainKeys := false, apart := false }
def TokenGoesSaid : Prop := tokenGoesRow.holds Try.pinned (OpenSpec.ofChange tokenGoesSpec)

/-- ITS FALSE NEIGHBOUR: 'it returns false'. Refute it at one input. -/
def tokenGoesWrong : ChangeSpec := { name := "tokenGoes", fn := fun _ => fun
  | [d1, d2] => { results := [.lit (.bool false)], args := [d1, d2] }
  | _ => none }
def TokenGoesWrongFalsely : Prop := tokenGoesRow.holds Try.pinned (OpenSpec.ofChange tokenGoesWrong)

/-- 'beaconrykeep.TokenFew': WHATEVER THE INPUT: true; the input reads as it did. -/
def tokenFewSpec : ChangeSpec := { name := "tokenFew", fn := fun _ => fun
  | [d1, d2] => { results := [.lit (.bool true)], args := [d1, d2] }
  | _ => none }
def tokenFewRow : OpenClaim := { program := "ytejckoffllhjcaa", sum := "5f762d375162ce243dbbaf36b43192b2031d9594fdf9022cc657e0f1527fe571", func := "beaconry/beaconrykeep.TokenFew", spec := "tokenFew", unfollowed := true, recurses := true, plainKeys := false, apart := false }
def TokenFewSaid : Prop := tokenFewRow.holds Try.pinned (OpenSpec.ofChange tokenFewSpec)

/-- ITS FALSE NEIGHBOUR: 'it returns false'. Refute it at one input. -/
def tokenFewWrong : ChangeSpec := { name := "tokenFew", fn := fun _ => fun
  | [d1, d2] => { results := [.lit (.bool false)], args := [d1, d2] }
  | _ => none }
def TokenFewWrongFalsely : Prop := tokenFewRow.holds Try.pinned (OpenSpec.ofChange tokenFewWrong)

/- THE SECOND FORM. 'bulk': how many values and letters a reading holds, each counted each time it is reached (what is shared counts as often as it is met; a slice's spare places count too). A statement '..UptoSaid' is the law's where the arguments, and the package variables that the reading takes, are together of bulk at most 1048576: NARROWER than '..Said'. Prove '..Said' where nothing that the law and all that it calls make is longer than what came in: it says more and counts as full. Else prove '..UptoSaid'. A law counts once. -/
mutual
def uptoBulk {H : Type} : DataW H → Nat
  | .lit (.string bytes) => bytes.length + 1
  | .lit _ => 1
  | .nil => 1
  | .ptr d => uptoBulk d + 1
  | .slice elems spare => uptoBulkAll elems + uptoBulkAll spare + 1
  | .agg parts => uptoBulkAll parts + 1
  | .iface _ d => uptoBulk d + 1
  | .map entries => uptoBulkEntries entries + 1
  | .held _ => 1
def uptoBulkAll {H : Type} : List (DataW H) → Nat
  | [] => 0
  | d :: r => uptoBulk d + uptoBulkAll r
def uptoBulkEntries {H : Type} : List (Lit × DataW H) → Nat
  | [] => 0
  | x :: r => uptoBulkEntry x + uptoBulkEntries r
def uptoBulkEntry {H : Type} : Lit × DataW H → Nat
  | (.string bytes, d) => bytes.length + uptoBulk d + 1
  | (_, d) => uptoBulk d + 1
 end
def uptoSmall : (H : Type) → List (DataW H) → Bool := fun _ ds => decide (uptoBulkAll ds ≤ 1048576)
def OpenSpec.upto (s : _root_.Go.ChangeSpec) : _root_.Go.OpenSpec := { _root_.Go.OpenSpec.ofChange s with cond := some uptoSmall }

/-- 'beaconrylaw.TokenPlays', WHERE WHAT IT READS IS OF BULK AT MOST 1048576: true; the input reads as it did. -/
def tokenPlaysUptoRow : OpenClaim := { program := "ytejckoffllhjcaa", sum := "5f762d375162ce243dbbaf36b43192b2031d9594fdf9022cc657e0f1527fe571", func := "beaconry/beaconrylaw.TokenPlays", spec := "tokenPlays", unfollowed := true, recurses := true, plainKeys := false, apart := false, narrowed := true }
def TokenPlaysUptoSaid : Prop := tokenPlaysUptoRow.holds Try.pinned (OpenSpec.upto tokenPlaysSpec)

/-- 'beaconrykeep.TokenOne', WHERE WHAT IT READS IS OF BULK AT MOST 1048576: true; the input reads as it did. -/
def tokenOneUptoRow : OpenClaim := { program := "ytejckoffllhjcaa", sum := "5f762d375162ce243dbbaf36b43192b2031d9594fdf9022cc657e0f1527fe571", func := "beaconry/beaconrykeep.TokenOne", spec := "tokenOne", unfollowed := true, recurses := true, plainKeys := false, apart := false, narrowed := true }
def TokenOneUptoSaid : Prop := tokenOneUptoRow.holds Try.pinned (OpenSpec.upto tokenOneSpec)

/-- 'beaconrykeep.TokenGoes', WHERE WHAT IT READS IS OF BULK AT MOST 1048576: true; the input reads as it did. -/
def tokenGoesUptoRow : OpenClaim := { program := "ytejckoffllhjcaa", sum := "5f762d375162ce243dbbaf36b43192b2031d9594fdf9022cc657e0f1527fe571", func := "beaconry/beaconrykeep.TokenGoes", spec := "tokenGoes", unfollowed := true, recurses := true, plainKeys := false, apart := false, narrowed := true }
def TokenGoesUptoSaid : Prop := tokenGoesUptoRow.holds Try.pinned (OpenSpec.upto tokenGoesSpec)

/-- 'beaconrykeep.TokenFew', WHERE WHAT IT READS IS OF BULK AT MOST 1048576: true; the input reads as it did. -/
def tokenFewUptoRow : OpenClaim := { program := "ytejckoffllhjcaa", sum := "5f762d375162ce243dbbaf36b43192b2031d9594fdf9022cc657e0f1527fe571", func := "beaconry/beaconrykeep.TokenFew", spec := "tokenFew", unfollowed := true, recurses := true, plainKeys := false, apart := false, narrowed := true }
def TokenFewUptoSaid : Prop := tokenFewUptoRow.holds Try.pinned (OpenSpec.upto tokenFewSpec)

end Rows
end Go.Proofs.Ytejckoffllhjcaa
