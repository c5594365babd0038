/-
  The walk of the law RingSoon: as many phases as 2 goes into the numbers, no more.
-/
import Derived.Test.YtcmfpnghejapbaaHvs
namespace Go.Proofs.Ytcmfpnghejapbaa
open Go.RowKit Go.Maps

theorem pow_half (n j : Nat) : n / 2 ^ (j + 1) = n / 2 ^ j / 2 := by rw [Nat.pow_succ, Nat.div_div_eq_div_mul]

set_option maxHeartbeats 1000000 in
theorem ringSoon_law (w : World) (A : Option Addr) (cap : Nat) (l : List Int) (hE : Nums w w.heap.size A l) (_hf : NumFits l) (hc : l.length ≤ cap) (_hm : l.length ≤ maxLen) (hs : l.length ≤ 17592186044416) :
    Calls Try.prog 9 #[.slice A l.length cap] w fun e w' => e = .returned (.bool true) ∧ Below w.heap.size w w' := by
  by_cases h0 : rcode l = 0
  · have hRH := Lib.hid ((rcode_ok l).1 h0)
    have hl : l.length ≤ 12 := hRH.out.len.2
    have hb0 : (rcode l == 0) = true := by simp [h0]
    have h0H := Lib.hid hb0
    have hEH := Lib.hid hE
    clear h0 hE hb0
    go_enter Try.func9, Try.ntmps9
    go_wp2_with fail
    refine (halves_ok A cap l w hEH.out hc hRH.out).mono ?_
    rintro e w1 ⟨k, rfl, hk, hk12, hB1⟩
    have hkz := Lib.hid (phases_zero hRH.out hk)
    have hkH := Lib.hid hk
    clear hk
    have hE1 := (hEH.out.below hB1).more hB1.size
    go_wp2_with fail
    refine (ringed_any A cap l _ hE1 hs).mono ?_
    rintro e w2 ⟨rfl, hB2⟩
    have hB3 := hB1.trans (hB2.mono hB1.size)
    clear hE1 hB1 hB2
    rw [h0H.out]
    go_wp2_with fail
    go_loop [5, 6] (fun p x => ∃ j : Nat, j ≤ 12 - l.length / 2 ^ j ∧ p = .int .i64 j ∧ x = .int .i64 ((l.length / 2 ^ j : Nat) : Int)) (fun _ x => (intOf x).toNat)
    case atStart => exact ⟨0, Nat.zero_le _, rfl, by simp⟩
    case round =>
      obtain ⟨j, hj, rfl, rfl⟩ := hrel
      have hp := Lib.hid (pow_half l.length j)
      have hle : l.length / 2 ^ j ≤ 12 := Nat.le_trans (Nat.div_le_self _ _) hl
      have hso : Hid (l.length / 2 ^ j ≤ 1 → k ≤ j) := fun h => phases_soon hkH.out h
      generalize hy : l.length / 2 ^ j = y at *
      clear hy
      by_cases hlt : 1 < y
      · have hltI : (1 : Int) < (y : Int) := by omega
        have hdv : (y : Int) / 2 = ((y / 2 : Nat) : Int) := by omega
        have hle2 : y / 2 < y := by omega
        generalize hz : y / 2 = z at *
        clear hz
        go_wp2_with fail
        go_round
        case rel => exact ⟨j + 1, by rw [hp.out]; omega, by go_num, by rw [hp.out]⟩
        case measure => simp [intOf]; omega
      · have hltI : ¬ (1 : Int) < (y : Int) := by omega
        have hkj := hso.out (by omega)
        have hkI : (k : Int) ≤ (j : Int) := by omega
        by_cases e : k = 0
        · have e1 := hkz.out.1 e
          subst e
          have e1I : ((l.length : Int) == 1) = true := by simp [e1]
          clear hkz e1
          go_wp2_with fail
          go_ret
          exact ⟨by simp, hB3⟩
        · have e1 : ¬ l.length = 1 := fun h => e (hkz.out.2 h)
          have e1I : ((l.length : Int) == 1) = false := by simp; omega
          have e2I : ((k : Int) == 0) = false := by simp; omega
          clear hkz e1 e
          go_wp2_with fail
          go_ret
          exact ⟨by simp, hB3⟩
  · have hr : (rcode l != 0) = true := by simp [h0]
    have hb0 : (rcode l == 0) = false := by simp [h0]
    have hb0H := Lib.hid hb0
    have h0H := Lib.hid h0
    have hEH := Lib.hid hE
    clear h0 hE hb0
    go_enter Try.func9, Try.ntmps9
    go_wp2_with fail
    refine (halves_no A cap l w hEH.out hc hs h0H.out).mono ?_
    rintro e w1 ⟨rfl, rfl⟩
    go_wp2_with fail
    refine (ringed_any A cap l _ hEH.out hs).mono ?_
    rintro e w2 ⟨rfl, hB2⟩
    rw [hb0H.out]
    go_wp2_with fail
    go_ret
    exact ⟨by simp, hB2⟩

#print axioms ringSoon_law
end Go.Proofs.Ytcmfpnghejapbaa
