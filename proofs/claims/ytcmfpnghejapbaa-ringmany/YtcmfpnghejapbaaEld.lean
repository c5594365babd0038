/-
  The contracts of slices.Index and slices.Contains at []bool, and of ring.Lead.
-/
import Derived.Test.YtcmfpnghejapbaaErd
import Derived.OwnWalk
namespace Go.Proofs.Ytcmfpnghejapbaa
open Go.RowKit Go.Maps

/-- One of the bools is true. -/
def anyB (bl : List Bool) : Prop := ∃ p, p < bl.length ∧ bat bl p = true

set_option maxHeartbeats 400000 in
theorem indexb_any (A : Option Addr) (cap : Nat) (o : List Bool) (w : World) (hE : Bits w w.heap.size A o) (hl : o.length ≤ 1000) :
    Calls Try.prog 27 #[.slice A o.length cap, .bool true] w fun e w' => ∃ k : Int, e = .returned (.int .i64 k) ∧ (0 ≤ k ↔ anyB o) ∧ w = w' := by
  have hEH := Lib.hid hE
  clear hE
  go_enter Try.func27, Try.ntmps27
  go_wp2
  go_loop [8] (fun i => ∃ k : Nat, k ≤ o.length ∧ i = .int .i64 k ∧ Hid (∀ j, j < k → bat o j = false)) (fun i => o.length - (intOf i).toNat)
  case atStart => exact ⟨0, Nat.zero_le _, rfl, fun _ h => absurd h (Nat.not_lt_zero _)⟩
  case round =>
    obtain ⟨k, hk, rfl, hr⟩ := hrel
    by_cases hlt : k < o.length
    · obtain ⟨b, off, rfl, hb, hc⟩ := hEH.out (by omega)
      have c0 := hc k hlt
      have hkI : (k : Int) < (o.length : Int) := by omega
      clear hc
      cases he : bat o k with
      | true =>
        have hf : Hid (anyB o) := ⟨k, hlt, he⟩
        rw [he] at c0
        clear he
        go_wp2
        go_ret
        exact ⟨k, rfl, ⟨fun _ => hf.out, fun _ => by omega⟩, rfl⟩
      | false =>
        have hn : Hid (∀ j, j < k + 1 → bat o j = false) := fun j hj => by
          by_cases e : j = k
          · rw [e]; exact he
          · exact hr.out j (by omega)
        rw [he] at c0
        clear he
        go_wp2
        go_round
        case rel => exact ⟨k + 1, by omega, by go_num, hn⟩
        case measure => simp [intOf]; omega
    · have hf : Hid (¬ anyB o) := by
        rintro ⟨j, h1, h2⟩
        rw [hr.out j (by omega)] at h2
        cases h2
      go_wp2
      go_ret
      exact ⟨-1, rfl, ⟨fun h => absurd h (by omega), fun h => absurd h hf.out⟩, rfl⟩

set_option maxHeartbeats 400000 in
theorem containsb_any (A : Option Addr) (cap : Nat) (o : List Bool) (w : World) (hE : Bits w w.heap.size A o) (hl : o.length ≤ 1000) (C : Bool) (hC : C = true ↔ anyB o) :
    Calls Try.prog 21 #[.slice A o.length cap, .bool true] w fun e w' => e = .returned (.bool C) ∧ w = w' := by
  have hCH := Lib.hid hC
  have hEH := Lib.hid hE
  clear hC hE
  go_enter Try.func21, Try.ntmps21
  go_wp2_with fail
  refine (indexb_any A cap o w hEH.out hl).mono ?_
  rintro e w1 ⟨k, rfl, hk, rfl⟩
  have hkC : Hid (C = decide (0 ≤ k)) := by
    unfold Hid
    rw [Bool.eq_iff_iff, hCH.out, ← hk]
    simp
  clear hk hCH
  go_wp2_with fail
  go_ret
  exact ⟨by rw [hkC.out]; rfl, rfl⟩

open Classical in
/-- Lead's code. -/
noncomputable def lcode (l : List Int) (bl : List Bool) : Int := if rcode l ≠ 0 then rcode l else if bl.length ≠ l.length then 3 else if anyB bl then 0 else 5
theorem lcode_ok (l : List Int) (bl : List Bool) : lcode l bl = 0 ↔ Rng l ∧ bl.length = l.length ∧ anyB bl := by
  unfold lcode
  by_cases h1 : rcode l ≠ 0
  · rw [if_pos h1]
    exact ⟨fun h => absurd h h1, fun h => (rcode_ok l).2 h.1⟩
  rw [if_neg h1]
  have h1' : rcode l = 0 := by simpa using h1
  by_cases h2 : bl.length ≠ l.length
  · rw [if_pos h2]
    exact ⟨fun h => by omega, fun h => absurd h.2.1 h2⟩
  rw [if_neg h2]
  by_cases h3 : anyB bl
  · rw [if_pos h3]
    exact ⟨fun _ => ⟨(rcode_ok l).1 h1', by omega, h3⟩, fun _ => rfl⟩
  · rw [if_neg h3]
    exact ⟨fun h => by omega, fun h => absurd h.2.2 h3⟩

set_option maxHeartbeats 800000 in
theorem lead_no (w : World) (A : Option Addr) (cap : Nat) (l : List Int) (hN : Nums w w.heap.size A l) (hc : l.length ≤ cap) (hl : l.length ≤ 17592186044416) (Ab : Option Addr) (capb : Nat) (bl : List Bool) (hb : Bits w w.heap.size Ab bl) (h0 : ¬ lcode l bl = 0) :
    Calls Try.prog 10 #[.slice A l.length cap, .slice Ab bl.length capb] w fun e w' => e = .returned (.tuple #[.int .i64 0, .int .i64 0, .int .i64 (lcode l bl)]) ∧ w = w' := by
  have hNH := Lib.hid hN
  have hbH := Lib.hid hb
  by_cases h1 : rcode l ≠ 0
  · have e1 : lcode l bl = rcode l := by unfold lcode; rw [if_pos h1]
    rw [e1]
    have hb0 : (rcode l != 0) = true := by simp [h1]
    have hcall := Lib.hid (rcheck_any A cap l w hN hc hl)
    clear hN hb h0 h1 e1
    generalize rcode l = C at *
    go_enter Try.func10, Try.ntmps10
    go_wp2_with fail
    refine hcall.out.mono ?_
    rintro e w1 ⟨rfl, rfl⟩
    go_wp2_with fail
    go_ret3
    exact ⟨rfl, rfl⟩
  have h1' : rcode l = 0 := by simpa using h1
  have hcall := rcheck_any A cap l w hN hc hl
  rw [h1'] at hcall
  have hcallH := Lib.hid hcall
  clear hcall
  by_cases h2 : bl.length ≠ l.length
  · have e1 : lcode l bl = 3 := by unfold lcode; rw [if_neg h1, if_pos h2]
    rw [e1]
    have hb0 : ((bl.length : Int) != (l.length : Int)) = true := by simp; omega
    clear hN hb h0 h1 e1 h1'
    go_enter Try.func10, Try.ntmps10
    go_wp2_with fail
    refine hcallH.out.mono ?_
    rintro e w1 ⟨rfl, rfl⟩
    go_wp2_with fail
    go_ret3
    exact ⟨rfl, rfl⟩
  have h2' : bl.length = l.length := by omega
  have h3 : ¬ anyB bl := fun h => h0 ((lcode_ok l bl).2 ⟨(rcode_ok l).1 h1', h2', h⟩)
  have e1 : lcode l bl = 5 := by unfold lcode; rw [if_neg h1, if_neg h2, if_neg h3]
  rw [e1]
  have hR := (rcode_ok l).1 h1'
  have hn := hR.len
  have hcon := containsb_any Ab capb bl w hb (by omega) false ⟨(nomatch ·), fun h => absurd h h3⟩
  rw [h2'] at hcon ⊢
  have hconH := Lib.hid hcon
  clear hN hb h0 h1 e1 h1' hcon h3 h2
  go_enter Try.func10, Try.ntmps10
  go_wp2_with fail
  refine hcallH.out.mono ?_
  rintro e w1 ⟨rfl, rfl⟩
  go_wp2_with fail
  refine hconH.out.mono ?_
  rintro e w1 ⟨rfl, rfl⟩
  go_wp2_with fail
  go_ret3
  exact ⟨rfl, rfl⟩

def LdRel (w : World) (A : Option Addr) (cap : Nat) (l : List Int) (b : Nat → Bool) (E S r : Nat) (wr : World) : Prop :=
  (∃ M, Elec wr w.heap.size E S M 12 l.length A cap (sim l b r)) ∧ Below w.heap.size w wr

theorem sim_fits {l : List Int} (hF : NumFits l) (b : Nat → Bool) (r : Nat) : ∀ p x, p < l.length → (sim l b r).tr p = some x → I64 x := by
  intro p x hp hx
  obtain ⟨s, d, hs, _, _, _, he, _⟩ := invA_all l b r p x hp hx
  rw [he, vat_get l hs]
  exact hF _ (List.getElem_mem hs)
theorem ms_few {l : List Int} (hR : Rng l) (b : Nat → Bool) {r : Nat} (hr : r ≤ 24) : (sim l b r).ms ≤ 300 := by
  have h1 := ms_le l b r
  have h2 := hR.len
  have h3 : (r + 1) * l.length ≤ 25 * 12 := Nat.mul_le_mul (by omega) h2.2
  omega

set_option maxHeartbeats 1600000 in
theorem lead_ok (w : World) (A : Option Addr) (cap : Nat) (l : List Int) (hN : Nums w w.heap.size A l) (hF : NumFits l) (hc : l.length ≤ cap) (hR : Rng l) (Ab : Option Addr) (capb : Nat) (bl : List Bool) (hb : Bits w w.heap.size Ab bl) (hbl : bl.length = l.length) (T m : Nat) (hL : LeadAt l (bat bl) T m) (ha : anyB bl) :
    Calls Try.prog 10 #[.slice A l.length cap, .slice Ab bl.length capb] w fun e w' => e = .returned (.tuple #[.int .i64 (m : Int), .int .i64 ((sim l (bat bl) T).ms : Int), .int .i64 0]) ∧ Below w.heap.size w w' := by
  have hn := hR.len
  have hcall := rcheck_any A cap l w hN hc (by omega)
  rw [(rcode_ok l).2 hR] at hcall
  have hcallH := Lib.hid hcall
  have hcon := containsb_any Ab capb bl w hb (by omega) true ⟨fun _ => ha, fun _ => rfl⟩
  have hsta := start_any w A cap l hN hF hR Ab capb bl hbl hb
  rw [hbl] at hcon hsta ⊢
  have hconH := Lib.hid hcon
  have hstaH := Lib.hid hsta
  have hNH := Lib.hid hN
  have hFH := Lib.hid hF
  have hRH := Lib.hid hR
  have hLH := Lib.hid hL
  have hT := hL.soon
  have hm := hL.lt
  clear hcall hcon hsta hN hF hR hL hb
  generalize bat bl = b at *
  go_enter Try.func10, Try.ntmps10
  go_wp2_with fail
  refine hcallH.out.mono ?_
  rintro e w1 ⟨rfl, rfl⟩
  go_wp2_with fail
  refine hconH.out.mono ?_
  rintro e w1 ⟨rfl, rfl⟩
  go_wp2_with fail
  refine hstaH.out.mono ?_
  rintro e w1 ⟨E, S, M0, rfl, hE0, hB0⟩
  have hiniH : Hid (LdRel w A cap l b E S 0 w1) := ⟨⟨M0, hE0⟩, hB0⟩
  clear hE0 hB0
  go_wp2_with fail
  go_loopg [9] T (fun k _ wr => ∃ r, r + k = T ∧ LdRel w A cap l b E S r wr)
  case atStart => exact ⟨0, by omega, hiniH.out⟩
  case round =>
    obtain ⟨r, hr, ⟨M, hE⟩, hB⟩ := hrel
    have hrH := Lib.hid hr
    clear hr
    have hNr := Lib.hid (hNH.out.below hB)
    have hBH := Lib.hid hB
    by_cases hrT : r < T
    · have hld := Lib.hid (leader_any wr w.heap.size E S M 12 A cap l _ hE hNr.out (by omega) (by omega) l.length (Nat.le_refl _) (fun p hp => hLH.out.first r hrT p hp) (fun h => by omega))
      have hrd := Lib.hid (round_any wr w.heap.size E S M 12 A cap l _ hE hNr.out hFH.out hRH.out (sim_fits hFH.out b r) (by have := ms_few hRH.out b (r := r) (by omega); omega))
      clear hE hB
      rw [if_neg (Nat.lt_irrefl _), decide_eq_false (Nat.lt_irrefl _)] at hld
      go_wp2_with fail
      refine hld.out.mono ?_
      rintro e w2 ⟨rfl, rfl⟩
      go_wp2_with fail
      refine hrd.out.mono ?_
      rintro e w2 ⟨rfl, ⟨M2, hE2⟩, hB2⟩
      go_wp2_with fail
      go_roundg (gk - 1)
      case rel => exact ⟨r + 1, by have := hrH.out; omega, ⟨M2, hE2⟩, hBH.out.trans hB2⟩
      case measure => have := hrH.out; omega
    · have hrT' : r = T := by have := hrH.out; omega
      subst hrT'
      have hld := Lib.hid (leader_any wr w.heap.size E S M 12 A cap l _ hE hNr.out (by omega) (by omega) m (by omega) (fun p hp => by
        rw [← Bool.not_eq_true]
        intro h
        have := hLH.out.sole p (by omega) h
        omega) (fun _ => hLH.out.is))
      rw [if_pos hm, decide_eq_true hm] at hld
      have s3 := hE.cells.2.2.2
      clear hE hB
      obtain ⟨ms, hmsH⟩ : ∃ ms, Hid (ms = (sim l b r).ms) := ⟨_, rfl⟩
      rw [← hmsH.out] at s3
      go_wp2_with fail
      refine hld.out.mono ?_
      rintro e w2 ⟨rfl, rfl⟩
      go_wp2_with fail
      go_quiet (fail)
      go_wp2_with fail
      go_ret3
      exact ⟨by rw [← hmsH.out]; rfl, below_drewN hBH.out _⟩
#print axioms lead_no
#print axioms lead_ok
end Go.Proofs.Ytcmfpnghejapbaa
