/-
  Proved: for every slice of numbers and every number, beaconrykeep.QuorumGifford returns true (sets with more than half of all votes form a coterie, non-dominated if all votes together are odd) and leaves its arguments as they were. Conditions: none beyond the row's own.
-/
import Derived.Test.YtgamppdfjbcbeaaRows
import Derived.Test.YtgamppdfjbcbeaaQuorumGifford
import Derived.Test.YtgamppdfjbcbeaaOpen
import Derived.KernelRfl
namespace Go.Proofs.Ytgamppdfjbcbeaa.quorumGiffordRow
open Go.ChangeShapes Go.WideShapes Go.ChangeAt Go.RowKit
set_option linter.unusedVariables false

theorem own : ownKnob Try.prog.godebug = none := by kernel_rfl
theorem laidOut : laidOutB Try.prog = true := by kernel_rfl

set_option maxRecDepth 100000 in
theorem lifted (os : Os) (started : os.Started) (H : Type) (enc : TypeId × Value → H) :
    ReturnsInHanded {} Try.checked os 11 .any (Rows.quorumGiffordSpec.pre6 enc Try.prog Try.f11 Rows.quorumGiffordRow.domain false) (Rows.quorumGiffordSpec.post enc Try.prog Try.f11 false true false false) := by
  refine returnsInHanded_of_change_sized (C := Try.checked) own started (by kernel_rfl) Try.func11
    (ChangeSpec.witness6 (enc := enc) (C := Try.checked) false ⟨#[], #[.slice none 0 0, .int .i64 0], []⟩ 8 (by kernel_rfl) (by kernel_rfl) (by kernel_rfl) (by kernel_rfl)) ?_
  intro W base args ds gs before hval0 hW hcnd hsz0 _
  have hval : ∀ (j : Nat) t v, Try.f11.params[j]? = some t → args[j]? = some v → Value.okWide Try.prog W .any base t v := hval0
  have hW' := hW
  obtain ⟨p, q, hA0, hV, rfl, hfz, hnd⟩ := hW
  have hA : DataW.TrodAll enc Try.prog W 0 (fun _ => true) true Try.f11.params.toList args.toList ds p := hA0
  rw [Try.params11] at hA hval
  obtain ⟨v0, vs0, d0, ds0, p0, q0, hargs, rfl, rfl, h0, r0⟩ := trodAll_cons hA
  obtain ⟨v1, vs1, d1, ds1, p1, q1, rfl, rfl, rfl, h1, r1⟩ := trodAll_cons r0
  obtain ⟨rfl, rfl, rfl⟩ := trodAll_nil r1
  obtain rfl : args = #[v0, v1] := by cases args; simp_all
  obtain ⟨rfl, rfl⟩ := trodVars_none hV
  have hsz : (DataW.weightsEach Try.prog [38, 3] [d0, d1]).all (· ≤ reachBytes) = true := by rw [Try.params11] at hsz0; exact hsz0
  clear hsz0
  obtain ⟨A0, len0, cap0, rfl⟩ := okWide_slice Try.underlying38 (hval 0 38 v0 rfl rfl)
  have k0 := h0
  have lt0 : ∀ x ∈ p0, x.block < W.heap.size := by obtain ⟨m, hm⟩ := k0; exact DataW.trod_lt m _ _ _ hm
  obtain ⟨l0, rfl, hc0, hm0, hE0, hF0, hd0⟩ : ∃ l : List Int, l.length = len0 ∧ len0 ≤ cap0 ∧ cap0 ≤ maxLen ∧ Nums W W.heap.size A0 l ∧ NumFits l ∧ (len0 = 0 ∨ ∃ el sp, d0 = .slice el sp ∧ el.length = len0) := by
    obtain ⟨fuel, hf⟩ := h0
    exact open_nums Try.underlying38 Try.underlying3 (by kernel_rfl) (by simpa [Value.cells] using hf)
  have hl0 : l0.length ≤ maxLen := Nat.le_trans hc0 hm0
  have hs0 : l0.length ≤ 17592186044416 := by
    rcases hd0 with h | ⟨el, sp, h1, h2⟩
    · omega
    · have := sized_slice hsz (j := 0) (t := 38) (e := 3) rfl (by rw [h1]; rfl) Try.underlying38
      rw [show Try.prog.bytesOf 3 = 8 by kernel_rfl] at this
      unfold reachBytes at this
      omega
  obtain ⟨a1, rfl, rfl, rfl, w1⟩ := open_int Try.underlying3 (hval 1 3 v1 rfl rfl) h1
  clear hA0 hval0
  refine (quorumGifford_law W A0 cap0 l0 hE0 hF0 hc0 hl0 hs0 a1 (i64_of_wf w1)).mono fun e W' ⟨he, bel⟩ => ?_
  subst he
  exact ⟨_, rfl, _, _, _, [], _, [], hW', trodAll_mk1 (shut_bool Try.underlying4 _), (trodAll_cons_mk (Below.trod laidOut (by kernel_rfl) (of_decide_eq_true (by kernel_rfl)) k0 bel lt0) (trodAll_cons_mk (shut_int Try.underlying3 w1) trodAll_mk0)), rfl, bel.frame _, fun h => by cases h⟩

theorem over : Rows.quorumGiffordRow.holds Try.pinned (OpenSpec.ofChange Rows.quorumGiffordSpec) :=
  OpenClaim.holds_of_wide 11 Try.f11 rfl rfl rfl rfl rfl rfl rfl ⟨rfl, rfl, rfl, rfl, rfl⟩ rfl rfl rfl rfl rfl (by kernel_rfl) Try.func11 (by kernel_rfl)
    (of_decide_eq_true (by kernel_rfl)) (by unfold Func.isWrapper; first | (rw [if_pos (by decide +kernel)]; kernel_rfl) | (rw [if_neg (by decide +kernel)]; exact ⟨rfl, rfl⟩))
    (fun os started H enc _ => lifted os started H enc)
end Go.Proofs.Ytgamppdfjbcbeaa.quorumGiffordRow
namespace Go.Proofs.Ytgamppdfjbcbeaa
theorem quorumGifford_holds : Rows.QuorumGiffordSaid := quorumGiffordRow.over
#print axioms quorumGifford_holds
end Go.Proofs.Ytgamppdfjbcbeaa
