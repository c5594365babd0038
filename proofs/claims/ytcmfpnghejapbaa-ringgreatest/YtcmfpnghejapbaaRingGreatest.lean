/-
  The walk of the law RingGreatest: the process with the greatest number leads.
-/
import Derived.Test.YtcmfpnghejapbaaEla
import Derived.Test.YtcmfpnghejapbaaIns
namespace Go.Proofs.Ytcmfpnghejapbaa
open Go.RowKit Go.Maps

set_option maxHeartbeats 4000000 in
theorem ringGreatest_law (w : World) (A : Option Addr) (cap : Nat) (l : List Int) (hE : Nums w w.heap.size A l) (hf : NumFits l) (hc : l.length ≤ cap) (_hm : l.length ≤ maxLen) (hs : l.length ≤ 17592186044416) (Ab : Option Addr) (capb : Nat) (bl : List Bool) (hb : Bits w w.heap.size Ab bl) (_hcb : bl.length ≤ capb) (_hmb : bl.length ≤ maxLen) (hsb : bl.length ≤ 140737488355328) :
    Calls Try.prog 6 #[.slice A l.length cap, .slice Ab bl.length capb] w fun e w' => e = .returned (.bool true) ∧ Below w.heap.size w w' := by
  have hEH := Lib.hid hE
  have hbH := Lib.hid hb
  have hfH := Lib.hid hf
  obtain ⟨K, hK⟩ : ∃ K, Hid (K = lcode l bl) := ⟨_, rfl⟩
  clear hE hb hf
  go_enter Try.func6, Try.ntmps6
  go_wp2_with fail
  refine (lead_any w A cap l hEH.out hfH.out hc hs Ab capb bl hbH.out).mono ?_
  rintro e w1 ⟨i, k, rfl, hB1, hI⟩
  rw [← hK.out]
  have hE1 := Lib.hid ((hEH.out.below hB1).more hB1.size)
  have hb1 := Lib.hid (hbH.out.below hB1)
  have hB1H := Lib.hid hB1
  have hIH := Lib.hid hI
  clear hB1 hI
  go_wp2_with fail
  go_loop [8, 22] (fun s t => ∃ j : Nat, j ≤ bl.length ∧ t = .int .i64 j ∧ s = .bool (anyTo bl j)) (fun _ t => bl.length - (intOf t).toNat)
  case atStart => exact ⟨0, Nat.zero_le _, rfl, rfl⟩
  case round =>
    obtain ⟨j, hj, rfl, rfl⟩ := hrel
    by_cases hlt : j < bl.length
    · obtain ⟨ba, off, rfl, hba, hcells⟩ := hb1.out (by omega)
      have c0 := hcells j hlt
      have hjI : (j : Int) < (bl.length : Int) := by omega
      clear hcells
      have hnx : Hid (anyTo bl (j + 1) = (anyTo bl j || bat bl j)) := rfl
      generalize anyTo bl j = C at *
      generalize bat bl j = D at *
      cases C with
      | true =>
        go_wp2_with fail
        go_round
        case rel => exact ⟨j + 1, by omega, by go_num, by rw [hnx.out]; rfl⟩
        case measure => simp [intOf]; omega
      | false =>
        go_wp2_with fail
        go_round
        case rel => exact ⟨j + 1, by omega, by go_num, by rw [hnx.out]; rfl⟩
        case measure => simp [intOf]; omega
    · have hjl : j = bl.length := by omega
      subst hjl
      have hany : Hid (anyTo bl bl.length = true ↔ anyB bl) := anyTo_iff bl bl.length
      generalize anyTo bl bl.length = C at *
      have hri := Lib.hid (ringed_any A cap l w1 hE1.out hs)
      by_cases h1 : rcode l = 0
      · have h1b : (rcode l == 0) = true := by simp [h1]
        rw [h1b] at hri
        have hR := Lib.hid ((rcode_ok l).1 h1)
        clear h1 h1b
        by_cases h2 : bl.length = l.length
        · have h2b : ((bl.length : Int) != (l.length : Int)) = false := by simp; omega
          cases C with
          | true =>
            have hK0 : Hid (K = 0) := by unfold Hid; rw [hK.out]; exact (lcode_ok l bl).2 ⟨hR.out, h2, hany.out.1 rfl⟩
            have hl12 := hR.out.len
            obtain ⟨T, hL, hk⟩ := hIH.out.ok (hK.out.symm.trans hK0.out)
            have hil := hL.lt
            obtain ⟨hmost, hms⟩ := lead_most hR.out (invA_all l (bat bl) T) hil hL.is
            have hkn : ¬ (k : Int) < (l.length : Int) := by omega
            have hkm : k ≤ 300 := by rw [hk]; exact ms_few hR.out _ hL.soon
            have hmH := Lib.hid hmost
            clear hmost hL hk hms hany hK hIH
            have := hK0.out
            subst this
            clear hK0
            go_wp2_with fail
            refine hri.out.mono ?_
            rintro e w2 ⟨rfl, hB2⟩
            have hB3 := hB1H.out.trans (hB2.mono hB1H.out.size)
            have hE2 := (hEH.out.below hB3).more hB3.size
            have hB4 := Lib.hid (hB3.alloc hB3.size (.cells #[.int .i64 (i : Int)] 3))
            have hin := Lib.hid (inside_any (some ⟨w2.heap.size, 0, none⟩) 1 [(i : Int)] (l.length : Int) _ (nums1 w2 (i : Int) 3) (by simp) true (by unfold Hid inB; simp; omega))
            have hE3 := Lib.hid ((hEH.out.below hB4.out).more hB4.out.size)
            clear hB2 hB3 hE2 hri
            go_wp2_with fail
            refine hin.out.mono ?_
            rintro e w3 ⟨rfl, rfl⟩
            obtain ⟨b2, off2, rfl, hb2, hcells⟩ := nums_cells hE3.out (by omega)
            have ci := hcells i hil
            have hcH := Lib.hid hcells
            have hiI : (i : Int) < (l.length : Int) := by omega
            clear hcells hin
            generalize (w2.alloc (.cells #[.int .i64 (i : Int)] 3)) = w3 at *
            generalize hvi : vat l i = vi at *
            have hviH := Lib.hid hvi
            clear hvi
            go_wp2_with fail
            go_loop [65] (fun t => ∃ j : Nat, j ≤ l.length ∧ t = .int .i64 j) (fun t => l.length - (intOf t).toNat)
            case atStart => exact ⟨0, Nat.zero_le _, rfl⟩
            case round =>
              obtain ⟨j, hj, rfl⟩ := hrel
              by_cases hjl : j < l.length
              · have cj := hcH.out j hjl
                have hjI : (j : Int) < (l.length : Int) := by omega
                have hle : ¬ vi < vat l j := by
                  by_cases e : j = i
                  · rw [e, hviH.out]; omega
                  · have := hmH.out j hjl e
                    omega
                generalize vat l j = vj at *
                go_wp2_with fail
                go_round
                case rel => exact ⟨j + 1, by omega, by go_num⟩
                case measure => simp [intOf]; omega
              · go_wp2_with fail
                go_ret
                exact ⟨rfl, hB4.out⟩
          | false =>
            have hK0 : (K != 0) = true := by
              have : ¬ K = 0 := by
                rw [hK.out]
                intro h
                have := hany.out.2 ((lcode_ok l bl).1 h).2.2
                cases this
              simp [this]
            clear hany hK hIH
            go_wp2_with fail
            refine hri.out.mono ?_
            rintro e w2 ⟨rfl, hB2⟩
            go_wp2_with fail
            go_ret
            exact ⟨rfl, hB1H.out.trans (hB2.mono hB1H.out.size)⟩
        · have h2b : ((bl.length : Int) != (l.length : Int)) = true := by simp; omega
          have hK0 : (K != 0) = true := by
            have : ¬ K = 0 := by
              rw [hK.out]
              intro h
              exact h2 ((lcode_ok l bl).1 h).2.1
            simp [this]
          clear hany hK hIH
          go_wp2_with fail
          refine hri.out.mono ?_
          rintro e w2 ⟨rfl, hB2⟩
          go_wp2_with fail
          go_ret
          exact ⟨rfl, hB1H.out.trans (hB2.mono hB1H.out.size)⟩
      · have h1b : (rcode l == 0) = false := by simp [h1]
        rw [h1b] at hri
        have hK0 : (K != 0) = true := by
          have : ¬ K = 0 := by
            rw [hK.out]
            intro h
            exact h1 ((rcode_ok l).2 ((lcode_ok l bl).1 h).1)
          simp [this]
        clear h1 h1b hany hK hIH
        go_wp2_with fail
        refine hri.out.mono ?_
        rintro e w2 ⟨rfl, hB2⟩
        go_wp2_with fail
        go_ret
        exact ⟨rfl, hB1H.out.trans (hB2.mono hB1H.out.size)⟩
#print axioms ringGreatest_law
end Go.Proofs.Ytcmfpnghejapbaa
