/-
  The contract of cut.consistent.
-/
import Derived.Test.YtpofmhlmaejmoaaCov
import Derived.Test.YtpofmhlmaejmoaaSpl
namespace Go.Proofs.Ytpofmhlmaejmoaa
open Go.RowKit Go.Maps

/-- The last events of the cut, up to process k, know nothing beyond it. -/
def LastOk (l : List Ev) (c : Nat) (F : Nat → Int) (k : Nat) : Prop := ∀ p : Nat, p < k → 0 < F p → ∀ q : Nat, q < c → (vec l (lastC l F p) (q : Int) : Int) ≤ F q

set_option maxHeartbeats 2000000 in
set_option maxRecDepth 100000 in
theorem consistent_any (A : Option Addr) (cap : Nat) (l : List Ev) (c T : Nat) (cv : List Int) (w : World) (hO : HOut l c T w) (hN : Nums w w.heap.size A cv) (hlen : cv.length = c) (hc6 : c ≤ 6) (h30 : l.length ≤ 30) (hr : Ranged l c (vat cv)) (C : Bool) (hC : Hid (C = true ↔ LastOk l c (vat cv) c)) :
    Calls Try.prog 27 #[.slice (some ⟨T, 0, none⟩) c c, .slice A cv.length cap] w fun e w' => e = .returned (.bool C) ∧ w = w' := by
  have hrH := Lib.hid hr
  have hOH := Lib.hid hO
  clear hr hO
  rw [hlen]
  go_enter Try.func27, Try.ntmps27
  go_wp2
  go_loop [9] (fun i => ∃ k : Nat, k ≤ c ∧ i = .int .i64 k ∧ LastOk l c (vat cv) k) (fun i => c - (intOf i).toNat)
  case atStart => exact ⟨0, Nat.zero_le _, rfl, fun p hp => by omega⟩
  case round =>
    obtain ⟨k, hk, rfl, hok⟩ := hrel
    have hokH := Lib.hid hok
    clear hok
    by_cases hlt : k < c
    · obtain ⟨b, off, rfl, hb, hcs⟩ := hN (by omega)
      have x1 := hcs k (by omega)
      rw [← vat_get cv (by omega)] at x1
      clear hcs
      have hkI : (k : Int) < (c : Int) := by omega
      have hrk := hrH.out k hlt
      by_cases h0 : 0 < vat cv k
      · obtain ⟨m, hm⟩ : ∃ m : Nat, vat cv k = (m : Int) + 1 := ⟨(vat cv k).toNat - 1, by omega⟩
        have hmo : m < own l (k : Int) l.length := by omega
        have ho30 := own_le l (k : Int) l.length
        obtain ⟨A2, cap2, s1, hs⟩ := hOH.out.slot k hlt
        obtain ⟨g, h, rfl, hg, s2, hN2⟩ := hs m hmo
        have hmI : (m : Int) < (own l (k : Int) l.length : Int) := by omega
        have hlast : Hid (lastC l (vat cv) k = (hist l (k : Int) l.length).getD m 0) := by
          unfold Hid lastC
          rw [hm]
          congr 1
        generalize hI : (hist l (k : Int) l.length).getD m 0 = i0 at *
        have hv : (vlist l c i0).length = c := vlist_len l c i0
        have step : Hid (LastOk l c (vat cv) (k + 1) ↔ ∀ i, i < (vlist l c i0).length → vat (vlist l c i0) i ≤ vat cv i) := by
          unfold Hid
          rw [hv]
          constructor
          · intro h i hi
            rw [vlist_at l i0 hi, ← hlast.out]
            exact h k (by omega) h0 i hi
          · intro h p hp hp0 q hq
            by_cases e : p = k
            · subst e
              have := h q hq
              rw [vlist_at l i0 hq, ← hlast.out] at this
              exact this
            · exact hokH.out p (by omega) hp0 q hq
        rw [hm] at x1
        clear hI hs hrk h0 hlast
        have hm30 : m ≤ 30 := by omega
        generalize own l (k : Int) l.length = on at *
        have hcall : ∀ C' : Bool, Hid (C' = true ↔ ∀ i, i < (vlist l c i0).length → vat (vlist l c i0) i ≤ vat cv i) → Calls Try.prog 35 #[.slice (some ⟨b, off, none⟩) c cap, .slice (some ⟨h, 0, none⟩) c c] w fun e w' => e = .returned (.bool C') ∧ w = w' := fun C' hC' => by
          have := covers_any (some ⟨b, off, none⟩) (some ⟨h, 0, none⟩) cap c cv (vlist l c i0) w hN hN2 (by omega) (by omega) C' hC'
          rw [hv, hlen] at this
          exact this
        have hcallH := Lib.hid hcall
        clear hcall hN hN2 hv
        by_cases hok2 : LastOk l c (vat cv) (k + 1)
        · have hcc := Lib.hid (hcallH.out true (Lib.hid ⟨fun _ => step.out.1 hok2, fun _ => rfl⟩))
          have hokn := Lib.hid hok2
          clear hok2 hcallH step hm
          go_wp2_with fail
          refine hcc.out.mono ?_
          rintro e w' ⟨rfl, rfl⟩
          go_wp2_with fail
          go_round
          case rel => exact ⟨k + 1, by omega, by go_num, hokn.out⟩
          case measure => simp [intOf]; omega
        · have hcc := Lib.hid (hcallH.out false (Lib.hid ⟨fun h => absurd h (by decide), fun h => absurd (step.out.2 h) hok2⟩))
          have hf : Hid (C = false) := by
            unfold Hid
            rw [← Bool.not_eq_true, hC.out]
            intro h
            exact hok2 (fun p hp => h p (by omega))
          clear hok2 hcallH step hm
          go_wp2_with fail
          refine hcc.out.mono ?_
          rintro e w' ⟨rfl, rfl⟩
          go_wp2_with fail
          go_ret
          exact ⟨by rw [hf.out]; rfl, rfl⟩
      · have hokn : Hid (LastOk l c (vat cv) (k + 1)) := fun p hp hp0 q hq => by
          by_cases e : p = k
          · subst e; omega
          · exact hokH.out p (by omega) hp0 q hq
        have hd : ¬ (0 < vat cv k) := h0
        have hd2 : decide (0 < vat cv k) = false := by simp; omega
        generalize vat cv k = u at *
        go_wp2_with fail
        go_round
        case rel => exact ⟨k + 1, by omega, by go_num, hokn.out⟩
        case measure => simp [intOf]; omega
    · have hkl : k = c := by omega
      have hf : Hid (C = true) := by
        unfold Hid
        rw [hC.out]
        exact fun p hp => hokH.out p (by omega)
      go_wp2_with fail
      go_ret
      exact ⟨by rw [hf.out]; rfl, rfl⟩

#print axioms consistent_any
end Go.Proofs.Ytpofmhlmaejmoaa
