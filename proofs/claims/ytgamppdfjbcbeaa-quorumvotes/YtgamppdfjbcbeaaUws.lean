/-
  The contract of beaconryref.Words at the same words.
-/
import Derived.Test.YtgamppdfjbcbeaaUow
import Derived.BigQuiet
namespace Go.Proofs.Ytgamppdfjbcbeaa
open Go.RowKit Go.Maps
set_option linter.unusedVariables false

def WsRel (w : World) (wr : World) : Prop := Below w.heap.size w wr
set_option maxHeartbeats 1600000 in
theorem words_same (A1 A2 : Option Addr) (c1 c2 : Nat) (l : List Nat) (w : World) (h1 : Wds w w.heap.size A1 l) (h2 : Wds w w.heap.size A2 l) (hl : l.length ≤ 1000000) :
    Calls Try.prog 21 #[.slice A1 l.length c1, .slice A2 l.length c2] w fun e w' => e = .returned (.bool true) ∧ Below w.heap.size w w' := by
  go_enter Try.func21, Try.ntmps21
  go_wp2_with fail
  go_loopw [5] (fun i wr => ∃ k : Nat, k ≤ l.length ∧ i = .int .i64 k ∧ WsRel w wr) (fun i _ => l.length - (intOf i).toNat)
  case atStart => exact ⟨0, Nat.zero_le _, rfl, Below.refl _ _⟩
  case round =>
    obtain ⟨k, hk, rfl, hB⟩ := hrel
    unfold WsRel at hB
    by_cases hlt : k < l.length
    · obtain ⟨b, off, rfl, hb, hc⟩ := (h1.below hB) (by omega)
      obtain ⟨b', off', rfl, hb', hc'⟩ := (h2.below hB) (by omega)
      have x1 := hc k hlt
      have x2 := hc' k hlt
      clear hc hc'
      generalize wat l k = v at *
      go_wp2_with fail
      go_quiet (fail)
      go_wp2_with fail
      go_roundw
      case rel => exact ⟨k + 1, by omega, by go_num, below_drewN hB _⟩
      case measure => simp [intOf]; omega
    · have hkl : k = l.length := by omega
      subst hkl
      go_wp2_with fail
      go_ret
      exact ⟨rfl, hB⟩
#print axioms words_same
end Go.Proofs.Ytgamppdfjbcbeaa
