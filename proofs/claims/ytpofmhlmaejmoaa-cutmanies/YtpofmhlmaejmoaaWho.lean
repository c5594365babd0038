/-
  The contract of beaconryref.Whole.
-/
import Derived.Test.YtpofmhlmaejmoaaInn
import Derived.Test.YtpofmhlmaejmoaaTbl
namespace Go.Proofs.Ytpofmhlmaejmoaa
open Go.RowKit Go.Maps

/-- A set of events contains with each of them all that happen before it. -/
def WholeS (l : List Ev) (f : Nat → Bool) : Prop := ∀ i j, i < l.length → j < l.length → f j = true → HB l i j → f i = true
/-- Up to pair i, j. -/
def WholeTo (l : List Ev) (f : Nat → Bool) (i j : Nat) : Prop := ∀ a b, a < l.length → b < l.length → (a < i ∨ (a = i ∧ b < j)) → f b = true → HB l a b → f a = true

set_option maxHeartbeats 4000000 in
set_option maxRecDepth 100000 in
theorem whole_any (A : Option Addr) (cap : Nat) (l : List Ev) (g : Nat) (f : Nat → Bool) (w : World) (hE : Evs w w.heap.size A l) (h30 : l.length ≤ 30) (hR : BoolRow w g l.length f) (C : Bool) (hC : Hid (C = true ↔ WholeS l f)) :
    Calls Try.prog 14 #[.slice A l.length cap, .slice (some ⟨g, 0, none⟩) l.length l.length] w fun e w' => e = .returned (.bool C) ∧ Below w.heap.size w w' := by
  go_enter Try.func14, Try.ntmps14
  go_wp2_with fail
  refine (table_any A cap l _ hE h30).mono ?_
  rintro e w1 h
  obtain ⟨rfl, gt, t, hT, ht, hB1⟩ := h
  have hR1 := Row.below hR hB1 (Row.lt hR)
  have htH := Lib.hid ht
  have hTH := Lib.hid hT
  have hRH := Lib.hid hR1
  have hBH : Hid (Below w.heap.size w w1) := hB1
  clear hB1
  obtain ⟨TT, hTT⟩ : ∃ TT, w.heap.size = TT := ⟨_, rfl⟩
  rw [hTT] at hTH ⊢
  clear hTT
  clear ht hT hR1 hR
  go_wp2_with fail
  go_loop [6] (fun t => ∃ i : Nat, i ≤ l.length ∧ t = .int .i64 i ∧ WholeTo l f i 0) (fun t => l.length - (intOf t).toNat)
  case atStart => exact ⟨0, Nat.zero_le _, rfl, fun a b _ _ h => by omega⟩
  case round =>
    obtain ⟨i, hi, rfl, hok⟩ := hrel
    have hokH := Lib.hid hok
    clear hok
    by_cases hlt : i < l.length
    · have hiI : (i : Int) < (l.length : Int) := by omega
      go_wp2_with fail
      go_loop [7] (fun t => ∃ j : Nat, j ≤ l.length ∧ t = .int .i64 j ∧ WholeTo l f i j) (fun t => l.length - (intOf t).toNat)
      case atStart => exact ⟨0, Nat.zero_le _, rfl, hokH.out⟩
      case round =>
        obtain ⟨j, hj, rfl, hok⟩ := hrel
        have hok2 := Lib.hid hok
        clear hok hokH
        by_cases hjl : j < l.length
        · have hjI : (j : Int) < (l.length : Int) := by omega
          have x1 := BoolRow.at_ hRH.out hjl
          have x2 := BoolRow.at_ hRH.out hlt
          have s1 := hTH.out.slot (i := i) hlt hlt
          have s2 := hTH.out.cell (i := i) (j := j) hlt hjl
          have hh := htH.out i j hlt hjl
          have hst : Hid (WholeTo l f i (j + 1) ↔ ¬ (f j = true ∧ t i j = true ∧ f i = false)) := by
            unfold Hid
            constructor
            · rintro h ⟨h1, h2, h3⟩
              have := h i j hlt hjl (.inr ⟨rfl, by omega⟩) h1 (hh.1 h2)
              rw [h3] at this
              cases this
            · intro h a b ha hb hab hfb hhb
              by_cases e : a = i ∧ b = j
              · obtain ⟨rfl, rfl⟩ := e
                cases hfa : f a with
                | true => rfl
                | false => exact absurd ⟨hfb, hh.2 hhb, hfa⟩ h
              · exact hok2.out a b ha hb (by omega) hfb hhb
          have hbad : Hid (¬ WholeTo l f i (j + 1) → C = false) := by
            intro h
            rw [← Bool.not_eq_true, hC.out]
            intro hw
            exact h fun a b ha hb _ => hw a b ha hb
          clear hh
          generalize gt i = gi at *
          generalize t i j = tij at *
          cases hfj : f j with
          | false =>
            have hn := Lib.hid (hst.out.2 (by rw [hfj]; simp))
            rw [hfj] at x1
            clear hst hbad hfj
            go_wp2_with fail
            go_round
            case rel => exact ⟨j + 1, by omega, by go_num, hn.out⟩
            case measure => simp [intOf]; omega
          | true =>
            rw [hfj] at x1
            cases tij with
            | false =>
              have hn := Lib.hid (hst.out.2 (by simp))
              clear hst hbad hfj
              go_wp2_with fail
              go_round
              case rel => exact ⟨j + 1, by omega, by go_num, hn.out⟩
              case measure => simp [intOf]; omega
            | true =>
              cases hfi : f i with
              | true =>
                have hn := Lib.hid (hst.out.2 (by rw [hfi]; simp))
                rw [hfi] at x2
                clear hst hbad hfj hfi
                go_wp2_with fail
                go_round
                case rel => exact ⟨j + 1, by omega, by go_num, hn.out⟩
                case measure => simp [intOf]; omega
              | false =>
                have hf := Lib.hid (hbad.out (fun h => hst.out.1 h ⟨hfj, rfl, hfi⟩))
                rw [hfi] at x2
                clear hst hbad hfj hfi
                go_wp2_with fail
                go_ret
                exact ⟨by rw [hf.out]; rfl, hBH.out⟩
        · have hjl2 : j = l.length := by omega
          subst hjl2
          have hn : Hid (WholeTo l f (i + 1) 0) := fun a b ha hb hab => hok2.out a b ha hb (by omega)
          go_wp2_with fail
          go_round
          case rel => exact ⟨i + 1, by omega, by go_num, hn.out⟩
          case measure => simp [intOf]; omega
    · have hil : i = l.length := by omega
      subst hil
      have hf : Hid (C = true) := by
        unfold Hid
        rw [hC.out]
        exact fun a b ha hb => hokH.out a b ha hb (by omega)
      go_wp2_with fail
      go_ret
      exact ⟨by rw [hf.out]; rfl, hBH.out⟩

#print axioms whole_any
end Go.Proofs.Ytpofmhlmaejmoaa
