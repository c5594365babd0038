/-
  The walk of the law CutMany: more consistent cuts than events, not more than cuts; and just one more than events where no two events are concurrent.
-/
import Derived.Test.YtpofmhlmaejmoaaMan
import Derived.Test.YtpofmhlmaejmoaaMnb
import Derived.Test.YtpofmhlmaejmoaaApt
import Derived.Test.YtpofmhlmaejmoaaRan
namespace Go.Proofs.Ytpofmhlmaejmoaa
open Go.RowKit Go.Maps

set_option maxHeartbeats 1000000 in
theorem cutmany_no (w : World) (n : Int) (A : Option Addr) (cap : Nat) (l : List Ev) (hE : Evs w w.heap.size A l) (hF : Fits l) (hcap : l.length ≤ cap) (hl : l.length ≤ maxLen) (h0 : ¬ checkCode n l = 0) :
    Calls Try.prog 9 #[.int .i64 n, .slice A l.length cap] w fun e w' => e = .returned (.bool true) ∧ Below w.heap.size w w' := by
  have hr : (checkCode n l == 0) = false := by simp [h0]
  have hr' : (checkCode n l != 0) = true := by simp [h0]
  have h0H := Lib.hid h0
  clear h0
  go_enter Try.func9, Try.ntmps9
  go_wp2_with fail
  refine (many_no A cap l n _ hE hF hl h0H.out).mono ?_
  rintro e w1 ⟨rfl, hB1⟩
  go_wp2_with fail
  refine (ran_any A cap l n _ ((hE.below hB1).more hB1.size) hcap hl).mono ?_
  rintro e w2 ⟨rfl, hB2'⟩
  have hB2 := hB1.trans (hB2'.mono hB1.size)
  go_wp2_with fail
  go_ret
  exact ⟨rfl, hB2⟩

set_option maxHeartbeats 4000000 in
set_option maxRecDepth 100000 in
theorem cutmany_ok (w : World) (c : Nat) (A : Option Addr) (cap : Nat) (l : List Ev) (hE : Evs w w.heap.size A l) (hF : Fits l) (hcap : l.length ≤ cap) (hl : l.length ≤ maxLen) (h0 : checkCode (c : Int) l = 0) :
    Calls Try.prog 9 #[.int .i64 (c : Int), .slice A l.length cap] w fun e w' => e = .returned (.bool true) ∧ Below w.heap.size w w' := by
  obtain ⟨⟨hn1, hn2, h30⟩, hg⟩ := check_good.1 h0
  have hr : (checkCode (c : Int) l == 0) = true := by simp [h0]
  have h0H := Lib.hid h0
  have hN1 := cuts_more hg
  have hN2 := cutsL_le l c
  have hN3 := (prodT_small l h30 (show c ≤ 6 by omega)).2
  have hap := apartTo_le l l.length (by omega)
  have hN4 := Lib.hid (cuts_many hg)
  clear h0 hg
  have hmany := Lib.hid (many_ok A cap l c w hE hF h0H.out)
  generalize (cutsL l c).length = N at *
  go_enter Try.func9, Try.ntmps9
  go_wp2_with fail
  refine hmany.out.mono ?_
  rintro e w1 ⟨rfl, hB1⟩
  go_wp2_with fail
  refine (ran_any A cap l (c : Int) _ ((hE.below hB1).more hB1.size) hcap hl).mono ?_
  rintro e w2 ⟨rfl, hB2'⟩
  have hB2 := hB1.trans (hB2'.mono hB1.size)
  clear hB1 hB2' hmany
  go_wp2_with fail
  go_loopw [7, 8] (fun v t wr => ∃ p : Nat, p ≤ c ∧ t = .int .i64 p ∧ v = .int .i64 (prodT l p : Nat) ∧ Below w.heap.size w wr) (fun _ t _ => c - (intOf t).toNat)
  case atStart => exact ⟨0, Nat.zero_le _, rfl, rfl, hB2⟩
  case round =>
    clear hB2
    obtain ⟨p, hp, rfl, rfl, hB⟩ := hrel
    rename World => w3
    have hP1 := prodT_small l h30 (show p ≤ 6 by omega)
    by_cases hlt : p < c
    · have hpI : (p : Int) < (c : Int) := by omega
      have hP2 := (prodT_small l h30 (show p + 1 ≤ 6 by omega)).2
      have hmul : Hid (prodT l (p + 1) = prodT l p * (own l (p : Int) l.length + 1)) := rfl
      generalize prodT l p = a at *
      obtain ⟨b, hbH⟩ : ∃ b, Hid (prodT l (p + 1) = b) := ⟨_, rfl⟩
      rw [hbH.out] at hP2 hmul
      go_wp2_with fail
      go_loopw [9, 33] (fun v t wr => ∃ j : Nat, j ≤ l.length ∧ t = .int .i64 j ∧ v = .int .i64 ((own l (p : Int) j : Int) + 1) ∧ Below w.heap.size w wr) (fun _ t _ => l.length - (intOf t).toNat)
      case atStart => exact ⟨0, Nat.zero_le _, rfl, rfl, hB⟩
      case round =>
        clear hB
        obtain ⟨j, hj, rfl, rfl, hB⟩ := hrel
        have ho := own_le l (p : Int) j
        by_cases hjl : j < l.length
        · obtain ⟨bb, off, rfl, hb, hc⟩ := hE.below hB (by omega)
          obtain ⟨c0, c1, c2⟩ := hc j hjl
          clear hc
          have hev := Lib.hid (ev_get l hjl)
          generalize l[j] = e0 at *
          obtain ⟨pp, kd, mm⟩ := e0
          simp only at c0 c1 c2
          have hevp : Hid ((ev l j).p = pp) := by unfold Hid; rw [hev.out]
          have hBa := hB.alloc hB.size (.cells #[.int .i64 pp, .int .i64 kd, .int .i64 mm] 36)
          by_cases e : pp = (p : Int)
          · have v1 : (pp == (p : Int)) = true := by simp [e]
            have hown : Hid (own l (p : Int) (j + 1) = own l (p : Int) j + 1) := by
              unfold Hid
              rw [own_succ, if_pos (by rw [hevp.out]; exact e)]
            clear hB e
            generalize own l (p : Int) j = oj at *
            go_wp2_with fail
            go_roundw
            case rel => exact ⟨j + 1, by omega, by go_num, by rw [hown.out]; rfl, hBa⟩
            case measure => simp [intOf]; omega
          · have v1 : (pp == (p : Int)) = false := by simp [e]
            have hown : Hid (own l (p : Int) (j + 1) = own l (p : Int) j) := by
              unfold Hid
              rw [own_succ, if_neg (by rw [hevp.out]; exact e)]
              rfl
            clear hB e
            go_wp2_with fail
            go_roundw
            case rel => exact ⟨j + 1, by omega, by go_num, by rw [hown.out], hBa⟩
            case measure => simp [intOf]; omega
        · have hjl2 : j = l.length := by omega
          subst hjl2
          have hm2 : (a : Int) * ((own l (p : Int) l.length : Int) + 1) = (b : Int) := by rw [hmul.out]; simp
          clear hmul
          generalize own l (p : Int) l.length = oj at *
          go_wp2_with fail
          go_roundw
          case rel => exact ⟨p + 1, by omega, by go_num, by rw [hbH.out], hB⟩
          case measure => simp [intOf]; omega
    · have hpc : p = c := by omega
      subst hpc
      go_wp2_with fail
      refine (apart_ok A cap l (p : Int) _ ((hE.below hB).more hB.size) hF h0H.out).mono ?_
      rintro e w4 ⟨rfl, hB4'⟩
      have hB4 := hB.trans (hB4'.mono hB.size)
      clear hB hB4'
      have d1 : (l.length : Int) < (N : Int) := by omega
      have d2 : (N : Int) ≤ (prodT l p : Int) := by omega
      generalize prodT l p = a at *
      by_cases hz : 0 < apartTo l l.length
      · have hz2 := hN4.out.1 hz
        have d3 : (l.length : Int) + 1 < (N : Int) := by omega
        have d4 : (0 : Int) < (apartTo l l.length : Int) := by omega
        clear hN4
        generalize apartTo l l.length = ap at *
        go_wp2_with fail
        go_ret
        exact ⟨by simp, hB4⟩
      · have hz2 : ¬ l.length + 1 < N := fun h => hz (hN4.out.2 h)
        have d3 : ¬ ((l.length : Int) + 1 < (N : Int)) := by omega
        have d4 : apartTo l l.length = 0 := by omega
        clear hN4 hz
        rw [d4]
        clear d4
        go_wp2_with fail
        go_ret
        exact ⟨by simp; omega, hB4⟩

theorem cutMany_law (w : World) (n : Int) (_hn : I64 n) (A : Option Addr) (cap : Nat) (l : List Ev) (hE : Evs w w.heap.size A l) (hF : Fits l) (hcap : l.length ≤ cap) (hl : l.length ≤ maxLen) (_hs : l.length ≤ 17592186044416) :
    Calls Try.prog 9 #[.int .i64 n, .slice A l.length cap] w fun e w' => e = .returned (.bool true) ∧ Below w.heap.size w w' := by
  by_cases h0 : checkCode n l = 0
  · have hn := (check_small h0).1
    obtain ⟨c, rfl⟩ := Int.eq_ofNat_of_zero_le (show 0 ≤ n by omega)
    exact cutmany_ok w c A cap l hE hF hcap hl h0
  · exact cutmany_no w n A cap l hE hF hcap hl h0

#print axioms cutMany_law
end Go.Proofs.Ytpofmhlmaejmoaa
