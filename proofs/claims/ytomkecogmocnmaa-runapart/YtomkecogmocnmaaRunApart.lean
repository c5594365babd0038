/-
  The walk of the law RunApart: concurrent pairs are those that are not ordered; of one process none are.
-/
import Derived.Test.YtomkecogmocnmaaApt
namespace Go.Proofs.Ytomkecogmocnmaa
open Go.RowKit Go.Maps

theorem rowCnt_all (f : Nat → Bool) (k : Nat) (h : ∀ i, i < k → f i = true) : rowCnt f k = 0 := by
  induction k with
  | zero => rfl
  | succ k ih => unfold rowCnt; rw [ih (fun i hi => h i (by omega)), h k (by omega)]; rfl

theorem apart_one {n : Int} {l : List Ev} (h0 : checkCode n l = 0) (hn : n ≤ 1) (k : Nat) (hk : k ≤ l.length) : apartTo l k = 0 := by
  have g := (check_good.1 h0).2
  induction k with
  | zero => rfl
  | succ k ih =>
    unfold apartTo
    rw [ih (by omega), rowCnt_all _ k (fun i hi => ?_)]
    have h1 := g.proc i (by omega)
    have h2 := g.proc k (by omega)
    exact (bit_hb h0 i (by omega)).2 (.of ⟨hi, by omega, .inl (by omega)⟩)

set_option maxHeartbeats 1000000 in
theorem runapart_no (w : World) (n : Int) (A : Option Addr) (cap : Nat) (l : List Ev) (hE : Evs w w.heap.size A l) (hF : Fits l) (hcap : l.length ≤ cap) (hl : l.length ≤ maxLen) (h0 : ¬ checkCode n l = 0) :
    Calls Try.prog 10 #[.int .i64 n, .slice A l.length cap] w fun e w' => e = .returned (.bool true) ∧ Below w.heap.size w w' := by
  have hr : (checkCode n l == 0) = false := by simp [h0]
  have hr' : (checkCode n l != 0) = true := by simp [h0]
  have h0H := Lib.hid h0
  clear h0
  go_enter Try.func10, Try.ntmps10
  go_wp2_with fail
  refine (apart_no A cap l n _ hE hF hl h0H.out).mono ?_
  rintro e w1 ⟨rfl, hB1⟩
  go_wp2_with fail
  refine (ran_any A cap l n _ ((hE.below hB1).more hB1.size) hcap hl).mono ?_
  rintro e w2 ⟨rfl, hB2'⟩
  have hB2 := hB1.trans (hB2'.mono hB1.size)
  go_wp2_with fail
  go_ret
  exact ⟨rfl, hB2⟩

set_option maxHeartbeats 2000000 in
theorem runapart_ok (w : World) (n : Int) (A : Option Addr) (cap : Nat) (l : List Ev) (hE : Evs w w.heap.size A l) (hF : Fits l) (hcap : l.length ≤ cap) (h0 : checkCode n l = 0) :
    Calls Try.prog 10 #[.int .i64 n, .slice A l.length cap] w fun e w' => e = .returned (.bool true) ∧ Below w.heap.size w w' := by
  have h30 := (check_small h0).2.2
  have hl : l.length ≤ maxLen := by unfold maxLen; omega
  have hr : (checkCode n l == 0) = true := by simp [h0]
  have hone : Hid (n ≤ 1 → apartTo l l.length = 0) := fun hn => apart_one h0 hn _ (Nat.le_refl _)
  have h0H := Lib.hid h0
  clear h0
  go_enter Try.func10, Try.ntmps10
  go_wp2_with fail
  refine (apart_ok A cap l n _ hE hF h0H.out).mono ?_
  rintro e w1 ⟨rfl, hB1⟩
  go_wp2_with fail
  refine (ran_any A cap l n _ ((hE.below hB1).more hB1.size) hcap hl).mono ?_
  rintro e w2 ⟨rfl, hB2'⟩
  have hB2 := hB1.trans (hB2'.mono hB1.size)
  clear hB2' hB1
  go_wp2_with fail
  go_loopw [7, 8] (fun c i wr => ∃ k : Nat, k ≤ l.length ∧ i = .int .i64 k ∧ c = .int .i64 (apartTo l k : Nat) ∧ Below w.heap.size w wr) (fun _ i _ => l.length - (intOf i).toNat)
  case atStart => exact ⟨0, Nat.zero_le _, rfl, rfl, hB2⟩
  case round =>
    rename World => w3
    obtain ⟨k, hk, rfl, rfl, hB3⟩ := hrel
    have hap := apartTo_le l k (by omega)
    clear hB2
    by_cases hlt : k < l.length
    · go_wp2_with fail
      go_loopw [7, 9] (fun c i wr => ∃ j : Nat, j ≤ k ∧ i = .int .i64 j ∧ c = .int .i64 (apartTo l k + rowCnt (fun i => bitAt l i k) j : Nat) ∧ Below w.heap.size w wr) (fun _ i _ => k - (intOf i).toNat)
      case atStart => exact ⟨0, Nat.zero_le _, rfl, rfl, hB3⟩
      case round =>
        obtain ⟨j, hj, rfl, rfl, hB4⟩ := hrel
        have hrc := rowCnt_le (fun i => bitAt l i k) j
        clear hB3
        by_cases hjk : j < k
        · have hrow : Hid (rowCnt (fun i => bitAt l i k) (j + 1) = rowCnt (fun i => bitAt l i k) j + if bitAt l j k then 0 else 1) := rfl
          generalize hS : apartTo l k + rowCnt (fun i => bitAt l i k) j = S at *
          have hSb : S ≤ 930 := by omega
          have hSH := Lib.hid hS
          clear hS
          go_wp2_with fail
          refine (ahead_ok A cap l n j k _ ((hE.below hB4).more hB4.size) hF h0H.out (by omega) hlt).mono ?_
          rintro e w5 ⟨rfl, hB5'⟩
          have hB5 := hB4.trans (hB5'.mono hB4.size)
          clear hB5' hB4
          cases hv : bitAt l j k with
          | true =>
            have hn : Hid (apartTo l k + rowCnt (fun i => bitAt l i k) (j + 1) = S) := by unfold Hid; rw [hrow.out, hv, if_pos rfl]; exact hSH.out
            clear hv
            go_wp2_with fail
            go_roundw
            case rel => exact ⟨j + 1, by omega, by go_num, int_eq hn.out.symm, hB5⟩
            case measure => simp [intOf]; omega
          | false =>
            have hn : Hid (apartTo l k + rowCnt (fun i => bitAt l i k) (j + 1) = S + 1) := by unfold Hid; rw [hrow.out, hv, if_neg (by simp), ← hSH.out]; omega
            clear hv
            go_wp2_with fail
            go_roundw
            case rel => exact ⟨j + 1, by omega, by go_num, int_eq1 hn.out, hB5⟩
            case measure => simp [intOf]; omega
        · have hjk' : j = k := by omega
          subst hjk'
          have hn : Hid (apartTo l (j + 1) = apartTo l j + rowCnt (fun i => bitAt l i j) j) := rfl
          clear hrc hap hjk
          generalize apartTo l j + rowCnt (fun i => bitAt l i j) j = S at *
          go_wp2_with fail
          go_roundw
          case rel => exact ⟨j + 1, by omega, by go_num, int_eq hn.out.symm, hB4⟩
          case measure => simp [intOf]; omega
    · have hkl : k = l.length := by omega
      subst hkl
      by_cases hn1 : 1 < n
      · generalize apartTo l l.length = S at *
        go_wp2_with fail
        go_ret
        exact ⟨by simp, hB3⟩
      · have hz : ((apartTo l l.length : Nat) : Int) = 0 := by rw [hone.out (by omega)]; rfl
        go_wp2_with fail
        go_ret
        exact ⟨by simp, hB3⟩

theorem runApart_law (w : World) (n : Int) (_hn : I64 n) (A : Option Addr) (cap : Nat) (l : List Ev) (hE : Evs w w.heap.size A l) (hF : Fits l) (hcap : l.length ≤ cap) (hl : l.length ≤ maxLen) (_hs : l.length ≤ 17592186044416) :
    Calls Try.prog 10 #[.int .i64 n, .slice A l.length cap] w fun e w' => e = .returned (.bool true) ∧ Below w.heap.size w w' := by
  by_cases h0 : checkCode n l = 0
  · exact runapart_ok w n A cap l hE hF hcap h0
  · exact runapart_no w n A cap l hE hF hcap hl h0

#print axioms runApart_law
end Go.Proofs.Ytomkecogmocnmaa
