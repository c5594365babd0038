/-
  The contract of run.agree.
-/
import Derived.Test.YtiokfehckhbnaaaHas
import Derived.BigQuiet
import Derived.Deep.QuietTactic
namespace Go.Proofs.Ytiokfehckhbnaaa
open Go.RowKit Go.Maps

theorem has_quiet (x i : Nat) (w : World) (hx : x < 1073741824) (hi : i < 31) :
    Calls Try.prog 33 #[.int .u64 x, .int .i64 i] w fun e w' => e = .returned (.bool (x.testBit i)) ∧ w' = w :=
  (has_any x i w hx hi).mono fun _ _ h => ⟨h.1, h.2.symm⟩

def AgrTo (xs ys o : List Nat) (k : Nat) : Prop := ∀ k' m, k' < k → m < o.length → (xs.getD (o.getD k' 0) 0).testBit (o.getD m 0) = (ys.getD k' 0).testBit m
def AgrRow (xs ys o : List Nat) (k m : Nat) : Prop := ∀ m', m' < m → (xs.getD (o.getD k 0) 0).testBit (o.getD m' 0) = (ys.getD k 0).testBit m'

/-- Words, each below 2 to the 30. -/
def WordsOk (xs : List Nat) : Prop := ∀ j, (h : j < xs.length) → xs[j] < 1073741824

set_option maxHeartbeats 1000000 in
theorem agree_any (g1 g2 : Nat) (A : Option Addr) (c1 c2 cap : Nat) (xs ys o : List Nat) (w : World) (hR1 : Row w g1 50 (wordsOf xs)) (hR2 : Row w g2 50 (wordsOf ys)) (hx : WordsOk xs) (hy : WordsOk ys)
    (hE : Nums w w.heap.size A (o.map Int.ofNat)) (h30 : o.length ≤ 30) (hxl : xs.length = o.length) (hyl : ys.length = o.length) (hin : ∀ i, (h : i < o.length) → o[i] < o.length)
    (C : Bool) (hC : Hid (C = true ↔ ∀ k m, k < o.length → m < o.length → (xs.getD (o.getD k 0) 0).testBit (o.getD m 0) = (ys.getD k 0).testBit m)) :
    Calls Try.prog 36 #[.slice (some ⟨g1, 0, none⟩) xs.length c1, .slice (some ⟨g2, 0, none⟩) ys.length c2, .slice A o.length cap] w fun e w' => e = .returned (.bool C) ∧ Below w.heap.size w w' := by
  have hxH := Lib.hid hxl
  have hyH := Lib.hid hyl
  have hinH := Lib.hid hin
  have hxo := Lib.hid hx
  have hyo := Lib.hid hy
  have hxle : o.length ≤ xs.length := by omega
  have hyle : o.length ≤ ys.length := by omega
  clear hxl hyl hin hx hy
  go_enter Try.func36, Try.ntmps36
  go_wp2_with fail
  go_loopw [13] (fun i wr => ∃ k : Nat, k ≤ o.length ∧ i = .int .i64 k ∧ AgrTo xs ys o k ∧ Below w.heap.size w wr) (fun i _ => o.length - (intOf i).toNat)
  case atStart => exact ⟨0, Nat.zero_le _, rfl, fun _ _ h => absurd h (Nat.not_lt_zero _), Below.refl _ _⟩
  case round =>
    rename World => w1
    obtain ⟨k, hk, rfl, hall, hB⟩ := hrel
    have hallH := Lib.hid hall
    clear hall
    by_cases hlt : k < o.length
    · obtain ⟨b, off, rfl, hb, hc⟩ := hE.below hB (by simp; omega)
      have d0 := hc k (by simp; exact hlt)
      simp only [List.getElem_map] at d0
      have hik := hinH.out k hlt
      have hok : Hid (o.getD k 0 = o[k]) := by unfold Hid; simp [hlt]
      clear hc
      generalize o[k] = i at *
      go_wp2_with fail
      go_loopw [20] (fun t wr => ∃ m : Nat, m ≤ o.length ∧ t = .int .i64 m ∧ AgrRow xs ys o k m ∧ Below w.heap.size w wr) (fun t _ => o.length - (intOf t).toNat)
      case atStart => exact ⟨0, Nat.zero_le _, rfl, fun _ h => absurd h (Nat.not_lt_zero _), hB⟩
      case round =>
        obtain ⟨m, hm, rfl, hrow, hB2⟩ := hrel
        have hrowH := Lib.hid hrow
        clear hrow d0
        by_cases hmt : m < o.length
        · obtain ⟨b', off', e', hb', hc'⟩ := hE.below hB2 (by simp; omega)
          obtain ⟨rfl, rfl⟩ : b = b' ∧ off = off' := by injection e' with e'; injection e' with e1 e2; exact ⟨e1, e2⟩
          have d1 := hc' m (by simp; exact hmt)
          simp only [List.getElem_map] at d1
          have him := hinH.out m hmt
          have hom : Hid (o.getD m 0 = o[m]) := by unfold Hid; simp [hmt]
          clear hc' e'
          generalize o[m] = j at *
          have hix : i < xs.length := by omega
          have hky : k < ys.length := by omega
          have x0 := ((hR1.below hB2 hR1.lt).cell (i := i) (by simp [wordsOf]; exact hix))
          have y0 := ((hR2.below hB2 hR2.lt).cell (i := k) (by simp [wordsOf]; exact hky))
          simp only [wordsOf, List.getElem_map] at x0 y0
          have hxv := hxo.out i hix
          have hyv := hyo.out k hky
          have hbx : Hid ((xs.getD (o.getD k 0) 0).testBit (o.getD m 0) = (xs[i]).testBit j) := by unfold Hid; rw [hok.out, hom.out]; simp [hix]
          have hby : Hid ((ys.getD k 0).testBit m = (ys[k]).testBit m) := by unfold Hid; simp [hky]
          generalize xs[i] = u at *
          generalize ys[k] = v at *
          have hj31 : j < 31 := by omega
          have hm31 : m < 31 := by omega
          go_wp2_with fail
          go_quiet ((go_at_call 33; exact Calls.quiet_of_same (has_quiet _ _ _ (by assumption) (by assumption))))
          generalize u.testBit j = s at *
          generalize v.testBit m = t at *
          by_cases hbb : s = t
          · have hnext : AgrRow xs ys o k (m + 1) := by
              intro m' hm'
              by_cases hmm : m' = m
              · subst hmm; rw [hbx.out, hby.out]; exact hbb
              · exact hrowH.out m' (by omega)
            subst hbb
            clear hbx hby
            cases s
            all_goals
              go_wp2_with fail
              go_roundw
              case rel => exact ⟨m + 1, by omega, by go_num, hnext, below_drewN hB2 _⟩
              case measure => simp [intOf]; omega
          · have hf : Hid (C = false) := by
              unfold Hid
              rw [← Bool.not_eq_true, hC.out]
              intro h
              have := h k m hlt hmt
              rw [hbx.out, hby.out] at this
              exact hbb this
            clear hbx hby
            cases s <;> cases t <;> first | exact absurd rfl hbb | skip
            all_goals
              clear hbb
              go_wp2_with fail
              go_ret
              exact ⟨by rw [hf.out]; rfl, below_drewN hB2 _⟩
        · have hml : m = o.length := by omega
          subst hml
          go_wp2_with fail
          go_roundw
          case rel =>
            refine ⟨k + 1, by omega, by go_num, fun k' m' hk' hm' => ?_, hB2⟩
            by_cases hkk : k' = k
            · subst hkk; exact hrowH.out m' hm'
            · exact hallH.out k' m' (by omega) hm'
          case measure => simp [intOf]; omega
    · have hkl : k = o.length := by omega
      have hC0 : Hid (C = true) := hC.out.2 (fun k' m' h1 h2 => hallH.out k' m' (by omega) h2)
      go_wp2_with fail
      go_ret
      exact ⟨by rw [hC0.out]; rfl, hB⟩

#print axioms agree_any
end Go.Proofs.Ytiokfehckhbnaaa
