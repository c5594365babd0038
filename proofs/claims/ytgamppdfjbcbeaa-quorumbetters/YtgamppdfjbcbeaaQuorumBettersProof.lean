/-
  Proved: for every n and every slice of words, beaconrylaw.QuorumBetters returns true (quorum.Better returns the coterie if it is non-dominated, else one that dominates it) and leaves its arguments as they were. Conditions: none beyond the row's own.
-/
import Derived.Test.YtgamppdfjbcbeaaRows
import Derived.Test.YtgamppdfjbcbeaaQuorumBetters
import Derived.Test.YtgamppdfjbcbeaaOpen
import Derived.Test.YtgamppdfjbcbeaaOpw
import Derived.KernelRfl
namespace Go.Proofs.Ytgamppdfjbcbeaa.quorumBettersRow
open Go.ChangeShapes Go.WideShapes Go.ChangeAt Go.RowKit
set_option linter.unusedVariables false

theorem own : ownKnob Try.prog.godebug = none := by kernel_rfl
theorem laidOut : laidOutB Try.prog = true := by kernel_rfl

set_option maxRecDepth 100000 in
theorem lifted (os : Os) (started : os.Started) (H : Type) (enc : TypeId × Value → H) :
    ReturnsInHanded {} Try.checked os 6 .any (Rows.quorumBettersSpec.pre6 enc Try.prog Try.f6 Rows.quorumBettersRow.domain false) (Rows.quorumBettersSpec.post enc Try.prog Try.f6 false true false false) := by
  refine returnsInHanded_of_change_sized (C := Try.checked) own started (by kernel_rfl) Try.func6
    (ChangeSpec.witness6 (enc := enc) (C := Try.checked) false ⟨#[], #[.int .i64 0, .slice none 0 0], []⟩ 8 (by kernel_rfl) (by kernel_rfl) (by kernel_rfl) (by kernel_rfl)) ?_
  intro W base args ds gs before hval0 hW hcnd hsz0 _
  have hval : ∀ (j : Nat) t v, Try.f6.params[j]? = some t → args[j]? = some v → Value.okWide Try.prog W .any base t v := hval0
  have hW' := hW
  obtain ⟨p, q, hA0, hV, rfl, hfz, hnd⟩ := hW
  have hA : DataW.TrodAll enc Try.prog W 0 (fun _ => true) true Try.f6.params.toList args.toList ds p := hA0
  rw [Try.params6] at hA hval
  obtain ⟨v0, vs0, d0, ds0, p0, q0, hargs, rfl, rfl, h0, r0⟩ := trodAll_cons hA
  obtain ⟨v1, vs1, d1, ds1, p1, q1, rfl, rfl, rfl, h1, r1⟩ := trodAll_cons r0
  obtain ⟨rfl, rfl, rfl⟩ := trodAll_nil r1
  obtain rfl : args = #[v0, v1] := by cases args; simp_all
  obtain ⟨rfl, rfl⟩ := trodVars_none hV
  have hsz : (DataW.weightsEach Try.prog [3, 22] [d0, d1]).all (· ≤ reachBytes) = true := by rw [Try.params6] at hsz0; exact hsz0
  clear hsz0
  obtain ⟨a0, rfl, rfl, rfl, w0⟩ := open_int Try.underlying3 (hval 0 3 v0 rfl rfl) h0
  obtain ⟨A1, len1, cap1, rfl⟩ := okWide_slice Try.underlying22 (hval 1 22 v1 rfl rfl)
  have k1 := h1
  have lt1 : ∀ x ∈ p1, x.block < W.heap.size := by obtain ⟨m, hm⟩ := k1; exact DataW.trod_lt m _ _ _ hm
  obtain ⟨l1, rfl, hc1, hm1, hE1, hF1, hd1⟩ : ∃ l : List Nat, l.length = len1 ∧ len1 ≤ cap1 ∧ cap1 ≤ maxLen ∧ Wds W W.heap.size A1 l ∧ WFits l ∧ (len1 = 0 ∨ ∃ el sp, d1 = .slice el sp ∧ el.length = len1) := by
    obtain ⟨fuel, hf⟩ := h1
    exact open_words Try.underlying22 Try.underlying27 (by kernel_rfl) (by simpa [Value.cells] using hf)
  have hl1 : l1.length ≤ maxLen := Nat.le_trans hc1 hm1
  have hs1 : l1.length ≤ 35184372088832 := by
    rcases hd1 with h | ⟨el, sp, h1, h2⟩
    · omega
    · have := sized_slice hsz (j := 1) (t := 22) (e := 27) rfl (by rw [h1]; rfl) Try.underlying22
      rw [show Try.prog.bytesOf 27 = 4 by kernel_rfl] at this
      unfold reachBytes at this
      omega
  clear hA0 hval0
  refine (quorumBetters_law W a0 (i64_of_wf w0) A1 cap1 l1 hE1 hF1 hc1 hl1 hs1).mono fun e W' ⟨he, bel⟩ => ?_
  subst he
  exact ⟨_, rfl, _, _, _, [], _, [], hW', trodAll_mk1 (shut_bool Try.underlying4 _), (trodAll_cons_mk (shut_int Try.underlying3 w0) (trodAll_cons_mk (Below.trod laidOut (by kernel_rfl) (of_decide_eq_true (by kernel_rfl)) k1 bel lt1) trodAll_mk0)), rfl, bel.frame _, fun h => by cases h⟩

theorem over : Rows.quorumBettersRow.holds Try.pinned (OpenSpec.ofChange Rows.quorumBettersSpec) :=
  OpenClaim.holds_of_wide 6 Try.f6 rfl rfl rfl rfl rfl rfl rfl ⟨rfl, rfl, rfl, rfl, rfl⟩ rfl rfl rfl rfl rfl (by kernel_rfl) Try.func6 (by kernel_rfl)
    (of_decide_eq_true (by kernel_rfl)) (by unfold Func.isWrapper; first | (rw [if_pos (by decide +kernel)]; kernel_rfl) | (rw [if_neg (by decide +kernel)]; exact ⟨rfl, rfl⟩))
    (fun os started H enc _ => lifted os started H enc)
end Go.Proofs.Ytgamppdfjbcbeaa.quorumBettersRow
namespace Go.Proofs.Ytgamppdfjbcbeaa
theorem quorumBetters_holds : Rows.QuorumBettersSaid := quorumBettersRow.over
#print axioms quorumBetters_holds
end Go.Proofs.Ytgamppdfjbcbeaa
