/-
  The contract of run.Apart.
-/
import Derived.Test.YtpofmhlmaejmoaaHas
import Derived.Test.YtpofmhlmaejmoaaChk
import Derived.Test.YtpofmhlmaejmoaaCnt
namespace Go.Proofs.Ytpofmhlmaejmoaa
open Go.RowKit Go.Maps

set_option maxHeartbeats 1000000 in
theorem apart_ok (A : Option Addr) (cap : Nat) (l : List Ev) (n : Int) (w : World) (hE : Evs w w.heap.size A l) (hF : Fits l) (h0 : checkCode n l = 0) :
    Calls Try.prog 25 #[.int .i64 n, .slice A l.length cap] w fun e w' => e = .returned (.tuple #[.int .i64 (apartTo l l.length : Nat), .int .i64 0]) ∧ Below w.heap.size w w' := by
  have h30 := (check_small h0).2.2
  have hl : l.length ≤ maxLen := by unfold maxLen; omega
  have hb0 : (checkCode n l != 0) = false := by simp [h0]
  clear h0
  go_enter Try.func25, Try.ntmps25
  go_wp2_with fail
  refine (check_any A cap l n _ hE hF hl).mono ?_
  rintro e w1 ⟨rfl, hB1⟩
  go_wp2_with fail
  refine (pasts_any A cap l _ ((hE.below hB1).more hB1.size) hF h30).mono ?_
  rintro e w2 ⟨rfl, hR, hB2'⟩
  have hB2 := hB1.trans (hB2'.mono hB1.size)
  clear hB2'
  generalize w1.heap.size = g at *
  go_wp2_with fail
  go_loop [7, 20] (fun c i => ∃ k : Nat, k ≤ l.length ∧ i = .int .i64 k ∧ c = .int .i64 (apartTo l k : Nat)) (fun _ i => l.length - (intOf i).toNat)
  case atStart => exact ⟨0, Nat.zero_le _, rfl, rfl⟩
  case round =>
    obtain ⟨k, hk, rfl, rfl⟩ := hrel
    have hap := apartTo_le l k (by omega)
    by_cases hlt : k < l.length
    · have hkp : k < (pasts l).length := by rw [pasts_len]; exact hlt
      have hcell := hR.cell (i := k) (by simp [wordsOf]; exact hkp)
      simp only [wordsOf, List.getElem_map] at hcell
      have hplt := past_lt l h30 k hkp
      have hbit : Hid (∀ i, bitAt l i k = ((pasts l)[k]).testBit i) := fun i => by unfold bitAt; simp [hkp]
      generalize (pasts l)[k] = v at *
      go_wp2_with fail
      go_loop [7, 26] (fun c i => ∃ j : Nat, j ≤ k ∧ i = .int .i64 j ∧ c = .int .i64 (apartTo l k + rowCnt (fun i => bitAt l i k) j : Nat)) (fun _ i => k - (intOf i).toNat)
      case atStart => exact ⟨0, Nat.zero_le _, rfl, rfl⟩
      case round =>
        obtain ⟨j, hj, rfl, rfl⟩ := hrel
        have hrc := rowCnt_le (fun i => bitAt l i k) j
        by_cases hjk : j < k
        · have hrow : Hid (rowCnt (fun i => bitAt l i k) (j + 1) = rowCnt (fun i => bitAt l i k) j + if v.testBit j then 0 else 1) := by
            have := hbit.out j
            unfold Hid
            rw [rowCnt, this]
          generalize hS : apartTo l k + rowCnt (fun i => bitAt l i k) j = S at *
          have hSb : S ≤ 930 := by omega
          have hSH := Lib.hid hS
          clear hS
          go_wp2_with fail
          refine (has_any v j _ hplt (by omega)).mono ?_
          rintro e w3 ⟨rfl, rfl⟩
          cases hv : v.testBit j with
          | true =>
            have hn : Hid (apartTo l k + rowCnt (fun i => bitAt l i k) (j + 1) = S) := by unfold Hid; rw [hrow.out, hv, if_pos rfl]; exact hSH.out
            clear hv
            go_wp2_with fail
            go_round
            case rel => exact ⟨j + 1, by omega, by go_num, int_eq hn.out.symm⟩
            case measure => simp [intOf]; omega
          | false =>
            have hn : Hid (apartTo l k + rowCnt (fun i => bitAt l i k) (j + 1) = S + 1) := by unfold Hid; rw [hrow.out, hv, if_neg (by simp), ← hSH.out]; omega
            clear hv
            go_wp2_with fail
            go_round
            case rel => exact ⟨j + 1, by omega, by go_num, int_eq1 hn.out⟩
            case measure => simp [intOf]; omega
        · have hjk' : j = k := by omega
          subst hjk'
          have hn : Hid (apartTo l (j + 1) = apartTo l j + rowCnt (fun i => bitAt l i j) j) := rfl
          clear hrc hap hjk
          generalize apartTo l j + rowCnt (fun i => bitAt l i j) j = S at *
          go_wp2_with fail
          go_round
          case rel => exact ⟨j + 1, by omega, by go_num, int_eq hn.out.symm⟩
          case measure => simp [intOf]; omega
    · have hkl : k = l.length := by omega
      subst hkl
      go_wp2_with fail
      go_ret2
      exact ⟨rfl, hB2⟩

set_option maxHeartbeats 400000 in
theorem apart_no (A : Option Addr) (cap : Nat) (l : List Ev) (n : Int) (w : World) (hE : Evs w w.heap.size A l) (hF : Fits l) (hl : l.length ≤ maxLen) (h0 : ¬ checkCode n l = 0) :
    Calls Try.prog 25 #[.int .i64 n, .slice A l.length cap] w fun e w' => e = .returned (.tuple #[.int .i64 0, .int .i64 (checkCode n l)]) ∧ Below w.heap.size w w' := by
  have hb0 : (checkCode n l != 0) = true := by simp [h0]
  clear h0
  go_enter Try.func25, Try.ntmps25
  go_wp2_with fail
  refine (check_any A cap l n _ hE hF hl).mono ?_
  rintro e w1 ⟨rfl, hB1⟩
  go_wp2_with fail
  go_ret2
  exact ⟨rfl, hB1⟩

#print axioms apart_ok
end Go.Proofs.Ytpofmhlmaejmoaa
