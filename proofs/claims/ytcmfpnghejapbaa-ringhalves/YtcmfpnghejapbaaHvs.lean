/-
  The contracts of ring.Half and ring.Halves.
-/
import Derived.Test.YtcmfpnghejapbaaPhs
namespace Go.Proofs.Ytcmfpnghejapbaa
open Go.RowKit Go.Maps

theorem rhf_no (A : Option Addr) (cap : Nat) (l : List Int) (w : World) (hE : Nums w w.heap.size A l) (hc : l.length ≤ cap) (hl : l.length ≤ 17592186044416) (h0 : ¬ rcode l = 0) :
    Calls Try.prog 13 #[.slice A l.length cap] w fun e w' => e = .returned (.tuple #[.slice none 0 0, .int .i64 (rcode l)]) ∧ w = w' := by
  have hb0 : (rcode l != 0) = true := by simp [h0]
  have h0H := Lib.hid h0
  have hEH := Lib.hid hE
  clear h0 hE
  go_enter Try.func13, Try.ntmps13
  go_wp2_with fail
  refine (rcheck_any A cap l w hEH.out hc hl).mono ?_
  rintro e w1 ⟨rfl, rfl⟩
  go_wp2_with fail
  go_ret2
  exact ⟨rfl, rfl⟩

/-- A list of ints, handed back beside OK. -/
def ListOk (xs : List Int) (w : World) (e : Ending) (w' : World) : Prop :=
  ∃ A cap, e = .returned (.tuple #[.slice A xs.length cap, .int .i64 0]) ∧ xs.length ≤ cap ∧ Nums w' w'.heap.size A xs ∧ Below w.heap.size w w'

theorem rhf_ok (A : Option Addr) (cap : Nat) (l : List Int) (w : World) (hE : Nums w w.heap.size A l) (hc : l.length ≤ cap) (hR : Rng l) :
    Calls Try.prog 13 #[.slice A l.length cap] w (ListOk (half l) w) := by
  have h0 := Lib.hid ((rcode_ok l).2 hR)
  have hl : l.length ≤ 17592186044416 := by have := hR.len; omega
  have hRH := Lib.hid hR
  have hEH := Lib.hid hE
  clear hR hE
  go_enter Try.func13, Try.ntmps13
  go_wp2_with fail
  refine (rcheck_any A cap l w hEH.out hc hl).mono ?_
  rintro e w1 ⟨rfl, rfl⟩
  rw [h0.out]
  go_wp2_with fail
  refine (phase_any A cap l w hEH.out hRH.out).mono ?_
  rintro e w1 ⟨A1, cap1, rfl, hc1, hN, hB⟩
  go_wp2_with fail
  go_ret2
  exact ⟨A1, cap1, rfl, hc1, hN, hB⟩

theorem halves_no (A : Option Addr) (cap : Nat) (l : List Int) (w : World) (hE : Nums w w.heap.size A l) (hc : l.length ≤ cap) (hl : l.length ≤ 17592186044416) (h0 : ¬ rcode l = 0) :
    Calls Try.prog 16 #[.slice A l.length cap] w fun e w' => e = .returned (.tuple #[.int .i64 0, .int .i64 (rcode l)]) ∧ w = w' := by
  have hb0 : (rcode l != 0) = true := by simp [h0]
  have h0H := Lib.hid h0
  have hEH := Lib.hid hE
  clear h0 hE
  go_enter Try.func16, Try.ntmps16
  go_wp2_with fail
  refine (rcheck_any A cap l w hEH.out hc hl).mono ?_
  rintro e w1 ⟨rfl, rfl⟩
  go_wp2_with fail
  go_ret2
  exact ⟨rfl, rfl⟩

def lenOf : Value → Nat
  | .slice _ n _ => n
  | _ => 0
/-- After j phases: what is left lies at v. -/
def HvRel (l : List Int) (w : World) (j : Nat) (v : Value) (wr : World) : Prop :=
  (∃ A cap, v = .slice A (phs l j).length cap ∧ Nums wr wr.heap.size A (phs l j)) ∧ (∀ i, i < j → 1 < (phs l i).length) ∧ Below w.heap.size w wr
def HvRes (l : List Int) (w : World) (e : Ending) (w' : World) : Prop := ∃ k : Nat, e = .returned (.tuple #[.int .i64 (k : Int), .int .i64 0]) ∧ Phases l k ∧ k ≤ 12 ∧ Below w.heap.size w w'
theorem phs_few {l : List Int} {j : Nat} (h : ∀ i, i < j → 1 < (phs l i).length) : (phs l j).length + j ≤ l.length := by
  induction j with
  | zero => exact Nat.le_refl _
  | succ j ih =>
    have h1 := ih (fun i hi => h i (by omega))
    have h2 := phs_less (h j (by omega))
    omega

set_option maxHeartbeats 1000000 in
theorem halves_ok (A : Option Addr) (cap : Nat) (l : List Int) (w : World) (hE : Nums w w.heap.size A l) (hc : l.length ≤ cap) (hR : Rng l) :
    Calls Try.prog 16 #[.slice A l.length cap] w (HvRes l w) := by
  have h0 := Lib.hid ((rcode_ok l).2 hR)
  have hl : l.length ≤ 12 := hR.len.2
  have hRH := Lib.hid hR
  have hEH := Lib.hid hE
  clear hR hE
  go_enter Try.func16, Try.ntmps16
  go_wp2_with fail
  refine (rcheck_any A cap l w hEH.out hc (by omega)).mono ?_
  rintro e w1 ⟨rfl, rfl⟩
  rw [h0.out]
  go_wp2_with fail
  go_loopw [5, 6] (fun p v wr => ∃ j : Nat, p = .int .i64 j ∧ HvRel l w j v wr) (fun _ v _ => lenOf v)
  case atStart => exact ⟨0, rfl, ⟨A, cap, rfl, hEH.out⟩, fun i hi => by omega, Below.refl _ _⟩
  case round =>
    obtain ⟨j, rfl, ⟨A1, c1, rfl, hN⟩, hall, hB⟩ := hrel
    have hfew := phs_few hall
    have hR1 := Lib.hid (phs_rng hRH.out j)
    have hallH := Lib.hid hall
    have hless : Hid (1 < (phs l j).length → (phs l (j + 1)).length < (phs l j).length) := fun h => phs_less h
    have hh : Hid (half (phs l j) = phs l (j + 1)) := rfl
    clear hall
    by_cases hlt : 1 < (phs l j).length
    · have hltI : (1 : Int) < ((phs l j).length : Int) := by omega
      go_wp2_with fail
      refine (phase_any A1 c1 (phs l j) wr hN hR1.out).mono ?_
      rintro e w2 ⟨A2, c2, rfl, _, hN2, hB2⟩
      rw [hh.out] at hN2 ⊢
      have hB3 := hB.trans (hB2.mono hB.size)
      have hall2 : Hid (∀ i, i < j + 1 → 1 < (phs l i).length) := fun i hi => by
        by_cases e : i = j
        · rw [e]; exact hlt
        · exact hallH.out i (by omega)
      go_wp2_with fail
      go_roundw
      case rel => exact ⟨j + 1, by go_num, ⟨A2, c2, rfl, hN2⟩, hall2.out, hB3⟩
      case measure => exact hless.out hlt
    · have hltI : ¬ (1 : Int) < ((phs l j).length : Int) := by omega
      go_wp2_with fail
      go_ret2
      exact ⟨j, rfl, ⟨by omega, hallH.out⟩, by omega, hB⟩

#print axioms rhf_ok
#print axioms halves_ok
end Go.Proofs.Ytcmfpnghejapbaa
