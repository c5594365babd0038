/-
  The walk of the law RingLeads: ring.Lead and the document's answer are alike.
-/
import Derived.Test.YtcmfpnghejapbaaEla
import Derived.Test.YtcmfpnghejapbaaEre
namespace Go.Proofs.Ytcmfpnghejapbaa
open Go.RowKit Go.Maps

set_option maxHeartbeats 4000000 in
theorem ringLeads_law (w : World) (A : Option Addr) (cap : Nat) (l : List Int) (hE : Nums w w.heap.size A l) (hf : NumFits l) (hc : l.length ≤ cap) (_hm : l.length ≤ maxLen) (hs : l.length ≤ 17592186044416) (Ab : Option Addr) (capb : Nat) (bl : List Bool) (hb : Bits w w.heap.size Ab bl) (_hcb : bl.length ≤ capb) (_hmb : bl.length ≤ maxLen) (hsb : bl.length ≤ 140737488355328) :
    Calls Try.prog 3 #[.slice A l.length cap, .slice Ab bl.length capb] w fun e w' => e = .returned (.bool true) ∧ Below w.heap.size w w' := by
  have hEH := Lib.hid hE
  have hbH := Lib.hid hb
  have hfH := Lib.hid hf
  obtain ⟨K, hK⟩ : ∃ K, Hid (K = lcode l bl) := ⟨_, rfl⟩
  obtain ⟨X, hX⟩ : ∃ X, Hid (X = rcode l) := ⟨_, rfl⟩
  clear hE hb hf
  go_enter Try.func3, Try.ntmps3
  go_wp2_with fail
  refine (lead_any w A cap l hEH.out hfH.out hc hs Ab capb bl hbH.out).mono ?_
  rintro e w1 ⟨i, k, rfl, hB1, hI⟩
  rw [← hK.out]
  have hE1 := Lib.hid ((hEH.out.below hB1).more hB1.size)
  have hB1H := Lib.hid hB1
  have hIH := Lib.hid hI
  clear hB1 hI
  go_wp2_with fail
  refine (rrcheck_any A cap l w1 hE1.out hs).mono ?_
  rintro e w2 ⟨rfl, hB2⟩
  rw [← hX.out]
  have hB2H := Lib.hid (hB1H.out.trans (hB2.mono hB1H.out.size))
  have hE2 := Lib.hid ((hEH.out.below hB2H.out).more hB2H.out.size)
  have hb2 := Lib.hid ((hbH.out.below hB2H.out).more hB2H.out.size)
  clear hB2
  by_cases h1 : X = 0
  · subst h1
    have hR := Lib.hid ((rcode_ok l).1 hX.out.symm)
    by_cases h2 : bl.length = l.length
    · have h2b : ((bl.length : Int) != (l.length : Int)) = false := by simp; omega
      have h2H := Lib.hid h2
      clear h2
      go_wp2_with fail
      go_loop [9, 34] (fun s t => ∃ j : Nat, j ≤ bl.length ∧ t = .int .i64 j ∧ s = .bool (anyTo bl j)) (fun _ t => bl.length - (intOf t).toNat)
      case atStart => exact ⟨0, Nat.zero_le _, rfl, rfl⟩
      case round =>
        obtain ⟨j, hj, rfl, rfl⟩ := hrel
        by_cases hlt : j < bl.length
        · obtain ⟨ba, off, rfl, hba, hcells⟩ := hb2.out (by omega)
          have c0 := hcells j hlt
          have hjI : (j : Int) < (bl.length : Int) := by omega
          clear hcells
          have hnx : Hid (anyTo bl (j + 1) = (anyTo bl j || bat bl j)) := rfl
          generalize anyTo bl j = C at *
          generalize bat bl j = D at *
          cases C with
          | true =>
            go_wp2_with fail
            go_round
            case rel => exact ⟨j + 1, by omega, by go_num, by rw [hnx.out]; rfl⟩
            case measure => simp [intOf]; omega
          | false =>
            go_wp2_with fail
            go_round
            case rel => exact ⟨j + 1, by omega, by go_num, by rw [hnx.out]; rfl⟩
            case measure => simp [intOf]; omega
        · have hjl : j = bl.length := by omega
          subst hjl
          have hany : Hid (anyTo bl bl.length = true ↔ anyB bl) := anyTo_iff bl bl.length
          generalize anyTo bl bl.length = C at *
          cases C with
          | true =>
            have hK0 : Hid (K = 0) := by unfold Hid; rw [hK.out]; exact (lcode_ok l bl).2 ⟨hR.out, h2H.out, hany.out.1 rfl⟩
            obtain ⟨T, hL, hk⟩ := hIH.out.ok (hK.out.symm.trans hK0.out)
            have hkm : k ≤ 300 := by rw [hk]; exact ms_few hR.out _ hL.soon
            have hil := hL.lt
            have hcall := leader_ref w2 A cap l hE2.out hR.out Ab capb bl hb2.out h2H.out T i hL
            rw [← hk] at hcall
            have hcallH := Lib.hid hcall
            clear hcall hL hk hany hK hIH
            have := hK0.out
            subst this
            clear hK0
            go_wp2_with fail
            refine hcallH.out.mono ?_
            rintro e w3 ⟨rfl, hB3⟩
            go_wp2_with fail
            go_ret
            exact ⟨rfl, hB2H.out.trans (hB3.mono hB2H.out.size)⟩
          | false =>
            have hno : ¬ anyB bl := fun h => by have := hany.out.2 h; cases this
            have hK5 : K = 5 := by
              rw [hK.out]
              unfold lcode
              rw [if_neg (by rw [← hX.out]; simp), if_neg (by have := h2H.out; omega), if_neg hno]
            obtain ⟨hi0, hk0⟩ := hIH.out.no (by rw [← hK.out]; omega)
            subst hK5 hi0 hk0
            clear hany hK hIH hno
            go_wp2_with fail
            go_ret
            exact ⟨rfl, hB2H.out⟩
    · have h2b : ((bl.length : Int) != (l.length : Int)) = true := by simp; omega
      have hK3 : K = 3 := by
        rw [hK.out]
        unfold lcode
        rw [if_neg (by rw [← hX.out]; simp), if_pos h2]
      obtain ⟨hi0, hk0⟩ := hIH.out.no (by rw [← hK.out]; omega)
      subst hK3 hi0 hk0
      clear hK hIH h2
      go_wp2_with fail
      go_loop [9, 34] (fun s t => ∃ j : Nat, j ≤ bl.length ∧ t = .int .i64 j ∧ s = .bool (anyTo bl j)) (fun _ t => bl.length - (intOf t).toNat)
      case atStart => exact ⟨0, Nat.zero_le _, rfl, rfl⟩
      case round =>
        obtain ⟨j, hj, rfl, rfl⟩ := hrel
        by_cases hlt : j < bl.length
        · obtain ⟨ba, off, rfl, hba, hcells⟩ := hb2.out (by omega)
          have c0 := hcells j hlt
          have hjI : (j : Int) < (bl.length : Int) := by omega
          clear hcells
          have hnx : Hid (anyTo bl (j + 1) = (anyTo bl j || bat bl j)) := rfl
          generalize anyTo bl j = C at *
          generalize bat bl j = D at *
          cases C with
          | true =>
            go_wp2_with fail
            go_round
            case rel => exact ⟨j + 1, by omega, by go_num, by rw [hnx.out]; rfl⟩
            case measure => simp [intOf]; omega
          | false =>
            go_wp2_with fail
            go_round
            case rel => exact ⟨j + 1, by omega, by go_num, by rw [hnx.out]; rfl⟩
            case measure => simp [intOf]; omega
        · have hjl : j = bl.length := by omega
          subst hjl
          have hany : Hid (anyTo bl bl.length = true ↔ anyB bl) := anyTo_iff bl bl.length
          generalize anyTo bl bl.length = C at *
          clear hany
          go_wp2_with fail
          go_ret
          exact ⟨rfl, hB2H.out⟩
  · have h1b : (X == 0) = false := by simp [h1]
    have h1c : (X != 0) = true := by simp [h1]
    have hKX : K = X := by
      rw [hK.out, hX.out]
      unfold lcode
      rw [if_pos (by rw [← hX.out]; exact h1)]
    obtain ⟨hi0, hk0⟩ := hIH.out.no (by rw [← hK.out, hKX]; exact h1)
    subst hKX hi0 hk0
    have hKK : (K == K) = true := by simp
    clear hK hIH hX h1
    go_wp2_with fail
    go_loop [9, 34] (fun s t => ∃ j : Nat, j ≤ bl.length ∧ t = .int .i64 j ∧ s = .bool (anyTo bl j)) (fun _ t => bl.length - (intOf t).toNat)
    case atStart => exact ⟨0, Nat.zero_le _, rfl, rfl⟩
    case round =>
      obtain ⟨j, hj, rfl, rfl⟩ := hrel
      by_cases hlt : j < bl.length
      · obtain ⟨ba, off, rfl, hba, hcells⟩ := hb2.out (by omega)
        have c0 := hcells j hlt
        have hjI : (j : Int) < (bl.length : Int) := by omega
        clear hcells
        have hnx : Hid (anyTo bl (j + 1) = (anyTo bl j || bat bl j)) := rfl
        generalize anyTo bl j = C at *
        generalize bat bl j = D at *
        cases C with
        | true =>
          go_wp2_with fail
          go_round
          case rel => exact ⟨j + 1, by omega, by go_num, by rw [hnx.out]; rfl⟩
          case measure => simp [intOf]; omega
        | false =>
          go_wp2_with fail
          go_round
          case rel => exact ⟨j + 1, by omega, by go_num, by rw [hnx.out]; rfl⟩
          case measure => simp [intOf]; omega
      · have hjl : j = bl.length := by omega
        subst hjl
        have hany : Hid (anyTo bl bl.length = true ↔ anyB bl) := anyTo_iff bl bl.length
        generalize anyTo bl bl.length = C at *
        clear hany
        go_wp2_with fail
        go_ret
        exact ⟨rfl, hB2H.out⟩
#print axioms ringLeads_law
end Go.Proofs.Ytcmfpnghejapbaa
