/-
  The walk of the law TickRises: what is ahead has the lesser tick.
-/
import Derived.Test.YtiokfehckhbnaaaTicks
import Derived.Test.YtiokfehckhbnaaaIns
import Derived.Test.YtiokfehckhbnaaaRan
import Derived.Test.YtiokfehckhbnaaaAhd
import Derived.BigQuiet
import Derived.Deep.QuietTactic
namespace Go.Proofs.Ytiokfehckhbnaaa
open Go.RowKit Go.Maps

set_option maxHeartbeats 1000000 in
theorem rises_no (w : World) (n : Int) (A : Option Addr) (cap : Nat) (l : List Ev) (hE : Evs w w.heap.size A l) (hF : Fits l) (hcap : l.length ≤ cap) (hl : l.length ≤ maxLen) (i j : Int) (h0 : ¬ checkCode n l = 0) :
    Calls Try.prog 6 #[.int .i64 n, .slice A l.length cap, .int .i64 i, .int .i64 j] w fun e w' => e = .returned (.bool true) ∧ Below w.heap.size w w' := by
  have hr : (checkCode n l == 0) = false := by simp [h0]
  have hr' : (checkCode n l != 0) = true := by simp [h0]
  have h0H := Lib.hid h0
  clear h0
  go_enter Try.func6, Try.ntmps6
  go_wp2_with fail
  refine (tticks_no A cap l n _ hE hF hl h0H.out).mono ?_
  rintro e w1 ⟨rfl, hB1⟩
  go_wp2_with fail
  refine (ran_any A cap l n _ ((hE.below hB1).more hB1.size) hcap hl).mono ?_
  rintro e w2 ⟨rfl, hB2'⟩
  have hB2 := hB1.trans (hB2'.mono hB1.size)
  go_wp2_with fail
  go_ret
  exact ⟨rfl, hB2⟩

set_option maxHeartbeats 2000000 in
set_option maxRecDepth 100000 in
theorem rises_out (w : World) (n : Int) (A : Option Addr) (cap : Nat) (l : List Ev) (hE : Evs w w.heap.size A l) (hF : Fits l) (hcap : l.length ≤ cap) (i j : Int) (h0 : checkCode n l = 0) (hij : ¬ ((0 ≤ i ∧ i < l.length) ∧ (0 ≤ j ∧ j < l.length))) :
    Calls Try.prog 6 #[.int .i64 n, .slice A l.length cap, .int .i64 i, .int .i64 j] w fun e w' => e = .returned (.bool true) ∧ Below w.heap.size w w' := by
  have hr : (checkCode n l == 0) = true := by simp [h0]
  have h30 := (check_small h0).2.2
  have hl : l.length ≤ maxLen := by unfold maxLen; omega
  have hin : Hid (inB l.length [i, j] = false) := by
    unfold Hid inB
    rw [← Bool.not_eq_true]
    simp only [List.all_cons, List.all_nil, Bool.and_true, Bool.and_eq_true, decide_eq_true_eq]
    exact hij
  have hijH := Lib.hid hij
  have h0H := Lib.hid h0
  clear h0 hij
  go_enter Try.func6, Try.ntmps6
  go_wp2_with fail
  refine (tticks_ok A cap l n _ hE hF h0H.out).mono ?_
  rintro e w1 ⟨g1, T1, rfl, hR1, hT1, hle, _, hB1⟩
  go_wp2_with fail
  refine (ran_any A cap l n _ ((hE.below hB1).more hB1.size) hcap hl).mono ?_
  rintro e w2 ⟨rfl, hB2'⟩
  have hR2 : NatRow w2 g1 l.length T1 := Row.below hR1 hB2' (Row.lt hR1)
  have hB2 := hB1.trans (hB2'.mono hB1.size)
  have hone := Lib.hid hT1.one
  have hleH := Lib.hid hle
  clear hB2' hB1 hR1 hle
  go_wp2_with fail
  go_loop [11] (fun t => ∃ k : Nat, k ≤ l.length ∧ t = .int .i64 k) (fun t => l.length - (intOf t).toNat)
  case atStart => exact ⟨0, Nat.zero_le _, rfl⟩
  case round =>
    obtain ⟨k, hk, rfl⟩ := hrel
    by_cases hlt : k < l.length
    · have c0 := hR2.at_ hlt
      have t1 := hone.out k hlt
      have t2 := hleH.out k hlt
      generalize T1 k = t at *
      have hd1 : decide ((t : Int) < 1) = false := by simp; omega
      have hd2 : decide (l.length < t) = false := by simp; omega
      go_wp2_with fail
      go_round
      case rel => exact ⟨k + 1, by omega, by go_num⟩
      case measure => simp [intOf]; omega
    · have hkl : k = l.length := by omega
      subst hkl
      go_wp2_with fail
      refine (ahead_out A cap l n i j _ ((hE.below hB2).more hB2.size) hF h0H.out hijH.out).mono ?_
      rintro e w3 ⟨rfl, hB3'⟩
      have hB3 := hB2.trans (hB3'.mono hB2.size)
      clear hB3'
      go_wp2_with fail
      refine (inside_any _ _ [i, j] l.length _ (nums2 _ _ _ _) (by simp) false hin).mono ?_
      rintro e w4 ⟨rfl, rfl⟩
      have hB4 : Below w.heap.size w (w3.alloc (.cells #[.int .i64 i, .int .i64 j] 3)) := hB3.alloc hB3.size _
      go_wp2_with fail
      go_ret
      exact ⟨rfl, hB4⟩

set_option maxHeartbeats 2000000 in
set_option maxRecDepth 100000 in
theorem rises_in (w : World) (n : Int) (A : Option Addr) (cap : Nat) (l : List Ev) (hE : Evs w w.heap.size A l) (hF : Fits l) (hcap : l.length ≤ cap) (i j : Nat) (h0 : checkCode n l = 0) (hi : i < l.length) (hj : j < l.length) :
    Calls Try.prog 6 #[.int .i64 n, .slice A l.length cap, .int .i64 i, .int .i64 j] w fun e w' => e = .returned (.bool true) ∧ Below w.heap.size w w' := by
  have hr : (checkCode n l == 0) = true := by simp [h0]
  have h30 := (check_small h0).2.2
  have hl : l.length ≤ maxLen := by unfold maxLen; omega
  have hin : Hid (inB l.length [(i : Int), (j : Int)] = true) := by unfold Hid inB; simp; omega
  have hbit : Hid (bitAt l i j = true → HB l i j) := fun h => (bit_hb h0 i hj).1 h
  have h0H := Lib.hid h0
  clear h0
  go_enter Try.func6, Try.ntmps6
  go_wp2_with fail
  refine (tticks_ok A cap l n _ hE hF h0H.out).mono ?_
  rintro e w1 ⟨g1, T1, rfl, hR1, hT1, hle, _, hB1⟩
  go_wp2_with fail
  refine (ran_any A cap l n _ ((hE.below hB1).more hB1.size) hcap hl).mono ?_
  rintro e w2 ⟨rfl, hB2'⟩
  have hR2 : NatRow w2 g1 l.length T1 := Row.below hR1 hB2' (Row.lt hR1)
  have hB2 := hB1.trans (hB2'.mono hB1.size)
  have hone := Lib.hid hT1.one
  have hup := Lib.hid hT1.up
  have hleH := Lib.hid hle
  clear hB2' hB1 hR1 hle
  go_wp2_with fail
  go_loop [11] (fun t => ∃ k : Nat, k ≤ l.length ∧ t = .int .i64 k) (fun t => l.length - (intOf t).toNat)
  case atStart => exact ⟨0, Nat.zero_le _, rfl⟩
  case round =>
    obtain ⟨k, hk, rfl⟩ := hrel
    by_cases hlt : k < l.length
    · have c0 := hR2.at_ hlt
      have t1 := hone.out k hlt
      have t2 := hleH.out k hlt
      generalize T1 k = t at *
      have hd1 : decide ((t : Int) < 1) = false := by simp; omega
      have hd2 : decide (l.length < t) = false := by simp; omega
      go_wp2_with fail
      go_round
      case rel => exact ⟨k + 1, by omega, by go_num⟩
      case measure => simp [intOf]; omega
    · have hkl : k = l.length := by omega
      subst hkl
      go_wp2_with fail
      refine (ahead_ok A cap l n i j _ ((hE.below hB2).more hB2.size) hF h0H.out hi hj).mono ?_
      rintro e w3 ⟨rfl, hB3'⟩
      have hR3 : NatRow w3 g1 l.length T1 := Row.below hR2 hB3' (Row.lt hR2)
      have hB3 := hB2.trans (hB3'.mono hB2.size)
      clear hB3' hR2
      go_wp2_with fail
      refine (inside_any _ _ [(i : Int), (j : Int)] l.length _ (nums2 _ _ _ _) (by simp) true hin).mono ?_
      rintro e w4 ⟨rfl, rfl⟩
      have hB4 : Below w.heap.size w (w3.alloc (.cells #[.int .i64 (i : Int), .int .i64 (j : Int)] 3)) := hB3.alloc hB3.size _
      have hR4 : NatRow (w3.alloc (.cells #[.int .i64 (i : Int), .int .i64 (j : Int)] 3)) g1 l.length T1 := Row.alloc hR3 _
      generalize w3.alloc (.cells #[.int .i64 (i : Int), .int .i64 (j : Int)] 3) = w5 at *
      clear hB3 hR3
      have x1 := hR4.at_ hi
      have x2 := hR4.at_ hj
      have hiI : (i : Int) < (l.length : Int) := by omega
      have hjI : (j : Int) < (l.length : Int) := by omega
      cases hb : bitAt l i j with
      | true =>
        have hlt2 := hup.out i j hj (hbit.out hb)
        clear hb
        generalize T1 i = a at *
        generalize T1 j = b at *
        have hd : decide (a < b) = true := by simp [hlt2]
        go_wp2_with fail
        go_quiet (fail)
        go_wp2_with fail
        go_ret
        exact ⟨rfl, below_drewN hB4 _⟩
      | false =>
        clear hb
        go_wp2_with fail
        go_quiet (fail)
        go_wp2_with fail
        go_ret
        exact ⟨rfl, below_drewN hB4 _⟩

theorem tickRises_law (w : World) (n : Int) (_hn : I64 n) (A : Option Addr) (cap : Nat) (l : List Ev) (hE : Evs w w.heap.size A l) (hF : Fits l) (hcap : l.length ≤ cap) (hl : l.length ≤ maxLen) (_hs : l.length ≤ 17592186044416) (i : Int) (_hi : I64 i) (j : Int) (_hj : I64 j) :
    Calls Try.prog 6 #[.int .i64 n, .slice A l.length cap, .int .i64 i, .int .i64 j] w fun e w' => e = .returned (.bool true) ∧ Below w.heap.size w w' := by
  by_cases h0 : checkCode n l = 0
  · by_cases hij : (0 ≤ i ∧ i < l.length) ∧ (0 ≤ j ∧ j < l.length)
    · obtain ⟨x, rfl⟩ := Int.eq_ofNat_of_zero_le hij.1.1
      obtain ⟨y, rfl⟩ := Int.eq_ofNat_of_zero_le hij.2.1
      exact rises_in w n A cap l hE hF hcap x y h0 (by omega) (by omega)
    · exact rises_out w n A cap l hE hF hcap i j h0 hij
  · exact rises_no w n A cap l hE hF hcap hl i j h0

#print axioms tickRises_law
end Go.Proofs.Ytiokfehckhbnaaa
