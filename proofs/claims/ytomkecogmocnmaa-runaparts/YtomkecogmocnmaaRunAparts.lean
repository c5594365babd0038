/-
  The walk of the law RunAparts: run.Apart and the document's count answer alike.
-/
import Derived.Test.YtomkecogmocnmaaTbl
namespace Go.Proofs.Ytomkecogmocnmaa
open Go.RowKit Go.Maps

set_option maxHeartbeats 1000000 in
theorem aparts_no (w : World) (n : Int) (A : Option Addr) (cap : Nat) (l : List Ev) (hE : Evs w w.heap.size A l) (hF : Fits l) (hcap : l.length ≤ cap) (hl : l.length ≤ maxLen) (h0 : ¬ checkCode n l = 0) :
    Calls Try.prog 5 #[.int .i64 n, .slice A l.length cap] w fun e w' => e = .returned (.bool true) ∧ Below w.heap.size w w' := by
  have hr : (checkCode n l == 0) = false := by simp [h0]
  have hr' : (checkCode n l != 0) = true := by simp [h0]
  have h0H := Lib.hid h0
  clear h0
  go_enter Try.func5, Try.ntmps5
  go_wp2_with fail
  refine (apart_no A cap l n _ hE hF hl h0H.out).mono ?_
  rintro e w1 ⟨rfl, hB1⟩
  go_wp2_with fail
  refine (refcheck_any A cap l n _ ((hE.below hB1).more hB1.size) hcap hl).mono ?_
  rintro e w2 ⟨rfl, hB2'⟩
  have hB2 := hB1.trans (hB2'.mono hB1.size)
  go_wp2_with fail
  go_ret
  exact ⟨rfl, hB2⟩

set_option maxHeartbeats 2000000 in
theorem aparts_ok (w : World) (n : Int) (A : Option Addr) (cap : Nat) (l : List Ev) (hE : Evs w w.heap.size A l) (hF : Fits l) (hcap : l.length ≤ cap) (h0 : checkCode n l = 0) :
    Calls Try.prog 5 #[.int .i64 n, .slice A l.length cap] w fun e w' => e = .returned (.bool true) ∧ Below w.heap.size w w' := by
  have h30 := (check_small h0).2.2
  have hl : l.length ≤ maxLen := by unfold maxLen; omega
  have hr : (checkCode n l != 0) = false := by simp [h0]
  have hbit : Hid (∀ i j, j < l.length → (bitAt l i j = true ↔ HB l i j)) := fun i j hj => bit_hb h0 i hj
  have h0H := Lib.hid h0
  clear h0
  go_enter Try.func5, Try.ntmps5
  go_wp2_with fail
  refine (apart_ok A cap l n _ hE hF h0H.out).mono ?_
  rintro e w1 ⟨rfl, hB1⟩
  go_wp2_with fail
  refine (refcheck_any A cap l n _ ((hE.below hB1).more hB1.size) hcap hl).mono ?_
  rintro e w2 ⟨rfl, hB2'⟩
  have hB2 := hB1.trans (hB2'.mono hB1.size)
  clear hB2' hB1
  go_wp2_with fail
  refine (table_any A cap l _ ((hE.below hB2).more hB2.size) h30).mono ?_
  rintro e w3 h
  obtain ⟨rfl, gs, f, hT, hf, hB3'⟩ := h
  have hB3 := hB2.trans (hB3'.mono hB2.size)
  have hfH : Hid (∀ i j, i < l.length → j < l.length → f i j = bitAt l i j) := fun i j hi hj => by rw [Bool.eq_iff_iff, hf i j hi hj, hbit.out i j hj]
  have hlow : Hid (∀ i j, i < l.length → j < i → f i j = false) := fun i j hi hj => by
    rw [← Bool.not_eq_true, hf i j hi (by omega)]
    intro h
    have := h.lt
    omega
  clear hf hB3' hB2 hbit
  generalize w2.heap.size = T at *
  go_wp2_with fail
  go_loop [8, 10] (fun c i => ∃ k : Nat, k ≤ l.length ∧ i = .int .i64 k ∧ c = .int .i64 (apartTo l k : Nat)) (fun _ i => l.length - (intOf i).toNat)
  case atStart => exact ⟨0, Nat.zero_le _, rfl, rfl⟩
  case round =>
    obtain ⟨k, hk, rfl, rfl⟩ := hrel
    have hap := apartTo_le l k (by omega)
    by_cases hlt : k < l.length
    · go_wp2_with fail
      go_loop [8, 11] (fun c i => ∃ j : Nat, j ≤ k ∧ i = .int .i64 j ∧ c = .int .i64 (apartTo l k + rowCnt (fun i => bitAt l i k) j : Nat)) (fun _ i => k - (intOf i).toNat)
      case atStart => exact ⟨0, Nat.zero_le _, rfl, rfl⟩
      case round =>
        obtain ⟨j, hj, rfl, rfl⟩ := hrel
        have hrc := rowCnt_le (fun i => bitAt l i k) j
        by_cases hjk : j < k
        · have hrow : Hid (rowCnt (fun i => bitAt l i k) (j + 1) = rowCnt (fun i => bitAt l i k) j + if bitAt l j k then 0 else 1) := rfl
          generalize hS : apartTo l k + rowCnt (fun i => bitAt l i k) j = S at *
          have hSb : S ≤ 930 := by omega
          have hSH := Lib.hid hS
          clear hS
          have s1 := hT.slot (i := k) hlt hlt
          have s2 := hT.slot (i := j) (by omega) (by omega)
          have x1 := hT.cell (i := k) (j := j) hlt (by omega)
          have x2 := hT.cell (i := j) (j := k) (by omega) hlt
          rw [hlow.out k j hlt hjk] at x1
          rw [hfH.out j k (by omega) hlt] at x2
          generalize gs k = g1 at *
          generalize gs j = g2 at *
          cases hv : bitAt l j k with
          | true =>
            have hn : Hid (apartTo l k + rowCnt (fun i => bitAt l i k) (j + 1) = S) := by unfold Hid; rw [hrow.out, hv, if_pos rfl]; exact hSH.out
            rw [hv] at x2
            clear hv
            go_wp2_with fail
            go_round
            case rel => exact ⟨j + 1, by omega, by go_num, int_eq hn.out.symm⟩
            case measure => simp [intOf]; omega
          | false =>
            have hn : Hid (apartTo l k + rowCnt (fun i => bitAt l i k) (j + 1) = S + 1) := by unfold Hid; rw [hrow.out, hv, if_neg (by simp), ← hSH.out]; omega
            rw [hv] at x2
            clear hv
            go_wp2_with fail
            go_round
            case rel => exact ⟨j + 1, by omega, by go_num, int_eq1 hn.out⟩
            case measure => simp [intOf]; omega
        · have hjk' : j = k := by omega
          subst hjk'
          have hn : Hid (apartTo l (j + 1) = apartTo l j + rowCnt (fun i => bitAt l i j) j) := rfl
          clear hrc hap hjk
          generalize apartTo l j + rowCnt (fun i => bitAt l i j) j = S at *
          go_wp2_with fail
          go_round
          case rel => exact ⟨j + 1, by omega, by go_num, int_eq hn.out.symm⟩
          case measure => simp [intOf]; omega
    · have hkl : k = l.length := by omega
      subst hkl
      generalize apartTo l l.length = S at *
      go_wp2_with fail
      go_ret
      exact ⟨by simp, hB3⟩

theorem runAparts_law (w : World) (n : Int) (_hn : I64 n) (A : Option Addr) (cap : Nat) (l : List Ev) (hE : Evs w w.heap.size A l) (hF : Fits l) (hcap : l.length ≤ cap) (hl : l.length ≤ maxLen) (_hs : l.length ≤ 17592186044416) :
    Calls Try.prog 5 #[.int .i64 n, .slice A l.length cap] w fun e w' => e = .returned (.bool true) ∧ Below w.heap.size w w' := by
  by_cases h0 : checkCode n l = 0
  · exact aparts_ok w n A cap l hE hF hcap h0
  · exact aparts_no w n A cap l hE hF hcap hl h0

#print axioms runAparts_law
end Go.Proofs.Ytomkecogmocnmaa
