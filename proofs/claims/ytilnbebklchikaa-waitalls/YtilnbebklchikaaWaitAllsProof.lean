/-
  Proved: for every slice of words, beaconrylaw.WaitAlls returns true (wait.All and the document's answer are alike) and leaves its argument as it was. Conditions: none beyond the row's own.
-/
import Derived.Test.YtilnbebklchikaaRows
import Derived.Test.YtilnbebklchikaaWaitAlls
import Derived.Test.YtilnbebklchikaaOpen
import Derived.Test.YtilnbebklchikaaOpw
import Derived.KernelRfl
namespace Go.Proofs.Ytilnbebklchikaa.waitAllsRow
open Go.ChangeShapes Go.WideShapes Go.ChangeAt Go.RowKit
set_option linter.unusedVariables false

theorem own : ownKnob Try.prog.godebug = none := by kernel_rfl
theorem laidOut : laidOutB Try.prog = true := by kernel_rfl

set_option maxRecDepth 100000 in
theorem lifted (os : Os) (started : os.Started) (H : Type) (enc : TypeId × Value → H) :
    ReturnsInHanded {} Try.checked os 3 .any (Rows.waitAllsSpec.pre6 enc Try.prog Try.f3 Rows.waitAllsRow.domain false) (Rows.waitAllsSpec.post enc Try.prog Try.f3 false true false false) := by
  refine returnsInHanded_of_change_sized (C := Try.checked) own started (by kernel_rfl) Try.func3
    (ChangeSpec.witness6 (enc := enc) (C := Try.checked) false ⟨#[], #[.slice none 0 0], []⟩ 8 (by kernel_rfl) (by kernel_rfl) (by kernel_rfl) (by kernel_rfl)) ?_
  intro W base args ds gs before hval0 hW hcnd hsz0 _
  have hval : ∀ (j : Nat) t v, Try.f3.params[j]? = some t → args[j]? = some v → Value.okWide Try.prog W .any base t v := hval0
  have hW' := hW
  obtain ⟨p, q, hA0, hV, rfl, hfz, hnd⟩ := hW
  have hA : DataW.TrodAll enc Try.prog W 0 (fun _ => true) true Try.f3.params.toList args.toList ds p := hA0
  rw [Try.params3] at hA hval
  obtain ⟨v0, vs0, d0, ds0, p0, q0, hargs, rfl, rfl, h0, r0⟩ := trodAll_cons hA
  obtain ⟨rfl, rfl, rfl⟩ := trodAll_nil r0
  obtain rfl : args = #[v0] := by cases args; simp_all
  obtain ⟨rfl, rfl⟩ := trodVars_none hV
  have hsz : (DataW.weightsEach Try.prog [22] [d0]).all (· ≤ reachBytes) = true := by rw [Try.params3] at hsz0; exact hsz0
  clear hsz0
  obtain ⟨A0, len0, cap0, rfl⟩ := okWide_slice Try.underlying22 (hval 0 22 v0 rfl rfl)
  have k0 := h0
  have lt0 : ∀ x ∈ p0, x.block < W.heap.size := by obtain ⟨m, hm⟩ := k0; exact DataW.trod_lt m _ _ _ hm
  obtain ⟨l0, rfl, hc0, hm0, hE0, hF0, hd0⟩ : ∃ l : List Nat, l.length = len0 ∧ len0 ≤ cap0 ∧ cap0 ≤ maxLen ∧ Wds W W.heap.size A0 l ∧ WFits l ∧ (len0 = 0 ∨ ∃ el sp, d0 = .slice el sp ∧ el.length = len0) := by
    obtain ⟨fuel, hf⟩ := h0
    exact open_words Try.underlying22 Try.underlying23 (by kernel_rfl) (by simpa [Value.cells] using hf)
  have hl0 : l0.length ≤ maxLen := Nat.le_trans hc0 hm0
  have hs0 : l0.length ≤ 35184372088832 := by
    rcases hd0 with h | ⟨el, sp, h1, h2⟩
    · omega
    · have := sized_slice hsz (j := 0) (t := 22) (e := 23) rfl (by rw [h1]; rfl) Try.underlying22
      rw [show Try.prog.bytesOf 23 = 4 by kernel_rfl] at this
      unfold reachBytes at this
      omega
  clear hA0 hval0
  refine (waitAlls_law W A0 cap0 l0 hE0 hF0 hc0 hl0 hs0).mono fun e W' ⟨he, bel⟩ => ?_
  subst he
  exact ⟨_, rfl, _, _, _, [], _, [], hW', trodAll_mk1 (shut_bool Try.underlying4 _), (trodAll_cons_mk (Below.trod laidOut (by kernel_rfl) (of_decide_eq_true (by kernel_rfl)) k0 bel lt0) trodAll_mk0), rfl, bel.frame _, fun h => by cases h⟩

theorem over : Rows.waitAllsRow.holds Try.pinned (OpenSpec.ofChange Rows.waitAllsSpec) :=
  OpenClaim.holds_of_wide 3 Try.f3 rfl rfl rfl rfl rfl rfl rfl ⟨rfl, rfl, rfl, rfl, rfl⟩ rfl rfl rfl rfl rfl (by kernel_rfl) Try.func3 (by kernel_rfl)
    (of_decide_eq_true (by kernel_rfl)) (by unfold Func.isWrapper; first | (rw [if_pos (by decide +kernel)]; kernel_rfl) | (rw [if_neg (by decide +kernel)]; exact ⟨rfl, rfl⟩))
    (fun os started H enc _ => lifted os started H enc)
end Go.Proofs.Ytilnbebklchikaa.waitAllsRow
namespace Go.Proofs.Ytilnbebklchikaa
theorem waitAlls_holds : Rows.WaitAllsSaid := waitAllsRow.over
#print axioms waitAlls_holds
end Go.Proofs.Ytilnbebklchikaa
