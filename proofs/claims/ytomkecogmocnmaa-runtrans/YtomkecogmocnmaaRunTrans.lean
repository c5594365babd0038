/-
  The walk of the law RunTrans: happens-before is a strict order.
-/
import Derived.Test.YtomkecogmocnmaaRan
namespace Go.Proofs.Ytomkecogmocnmaa
open Go.RowKit Go.Maps

theorem trans_bits {n : Int} {l : List Ev} (h0 : checkCode n l = 0) {i j k : Nat} (hi : i < l.length) (hj : j < l.length) (hk : k < l.length) :
    ¬ (bitAt l i j = true ∧ bitAt l j i = true) ∧ (bitAt l i j = true → bitAt l j k = true → bitAt l i k = true) ∧ ((ev l i).p = (ev l j).p → i < j → bitAt l i j = true) := by
  rw [bit_hb h0 i hj, bit_hb h0 j hi, bit_hb h0 j hk, bit_hb h0 i hk]
  refine ⟨fun ⟨h1, h2⟩ => ?_, fun h1 h2 => h1.trans h2, fun h1 h2 => .of ⟨h2, hj, .inl h1⟩⟩
  have := h1.lt
  have := h2.lt
  omega

set_option maxHeartbeats 1000000 in
set_option maxRecDepth 100000 in
theorem trans_main (w : World) (n : Int) (A : Option Addr) (cap : Nat) (l : List Ev) (hE : Evs w w.heap.size A l) (hF : Fits l) (hcap : l.length ≤ cap) (i j k : Nat) (h0 : checkCode n l = 0) (hi : i < l.length) (hj : j < l.length) (hk : k < l.length) :
    Calls Try.prog 7 #[.int .i64 n, .slice A l.length cap, .int .i64 i, .int .i64 j, .int .i64 k] w fun e w' => e = .returned (.bool true) ∧ Below w.heap.size w w' := by
  have hl : l.length ≤ maxLen := by have := (check_small h0).2.2; unfold maxLen; omega
  have h30 := (check_small h0).2.2
  obtain ⟨hT1, hT2, hT3⟩ := trans_bits h0 hi hj hk
  have hii : bitAt l i i = false := bit_none h0 hi (fun h => by have := h.lt; omega)
  have hr : (checkCode n l == 0) = true := by simp [h0]
  have hin1 : Hid (inB l.length [(i : Int)] = true) := by unfold Hid inB; simp; omega
  have hin2 : Hid (inB l.length [(j : Int), (k : Int)] = true) := by unfold Hid inB; simp; omega
  have h0H := Lib.hid h0
  have hT1H := Lib.hid hT1
  have hT2H := Lib.hid hT2
  have hT3H := Lib.hid hT3
  clear hT1 hT2 hT3 h0
  go_enter Try.func7, Try.ntmps7
  go_wp2_with fail
  refine (ahead_ok A cap l n i i _ hE hF h0H.out hi hi).mono ?_
  rintro e w1 ⟨rfl, hB1⟩
  have hE1 := (hE.below hB1).more hB1.size
  go_wp2_with fail
  refine (ran_any A cap l n _ hE1 hcap hl).mono ?_
  rintro e w2 ⟨rfl, hB2'⟩
  have hB2 := hB1.trans (hB2'.mono hB1.size)
  clear hB2' hE1
  go_wp2_with fail
  refine (inside_any _ _ [(i : Int)] l.length _ (nums1 _ _ _) (by simp) true hin1).mono ?_
  rintro e w3 ⟨rfl, rfl⟩
  have hB3 : Below w.heap.size w (w2.alloc (.cells #[.int .i64 (i : Int)] 3)) := hB2.alloc hB2.size _
  have hs3 : w.heap.size ≤ (w2.alloc (.cells #[.int .i64 (i : Int)] 3)).heap.size := hB3.size
  clear hB2
  generalize w2.alloc (.cells #[.int .i64 (i : Int)] 3) = w4 at *
  go_wp2_with fail
  refine (inside_any _ _ [(j : Int), (k : Int)] l.length _ (nums2 _ _ _ _) (by simp) true hin2).mono ?_
  rintro e w3 ⟨rfl, rfl⟩
  have hB5 : Below w.heap.size w (w4.alloc (.cells #[.int .i64 (j : Int), .int .i64 (k : Int)] 3)) := hB3.alloc hB3.size _
  clear hB3 hs3
  generalize w4.alloc (.cells #[.int .i64 (j : Int), .int .i64 (k : Int)] 3) = w5 at *
  go_wp2_with fail
  refine (ahead_ok A cap l n i j _ ((hE.below hB5).more hB5.size) hF h0H.out hi hj).mono ?_
  rintro e w6 ⟨rfl, hB6⟩
  have hB7 := hB5.trans (hB6.mono hB5.size)
  clear hB5 hB6
  go_wp2_with fail
  refine (ahead_ok A cap l n j k _ ((hE.below hB7).more hB7.size) hF h0H.out hj hk).mono ?_
  rintro e w8 ⟨rfl, hB8⟩
  have hB9 := hB7.trans (hB8.mono hB7.size)
  clear hB7 hB8
  go_wp2_with fail
  refine (ahead_ok A cap l n i k _ ((hE.below hB9).more hB9.size) hF h0H.out hi hk).mono ?_
  rintro e w10 ⟨rfl, hB10⟩
  have hB11 := hB9.trans (hB10.mono hB9.size)
  clear hB9 hB10
  go_wp2_with fail
  refine (ahead_ok A cap l n j i _ ((hE.below hB11).more hB11.size) hF h0H.out hj hi).mono ?_
  rintro e w12 ⟨rfl, hB12⟩
  have hB13 := hB11.trans (hB12.mono hB11.size)
  clear hB11 hB12
  obtain ⟨b, off, rfl, hb, hc⟩ := hE.below hB13 (by omega)
  have c1 := (hc i hi).1
  have c2 := (hc j hj).1
  clear hc
  rw [ev_get l hi, ev_get l hj] at hT3H
  generalize l[i].p = p1 at *
  generalize l[j].p = p2 at *
  have hcs : ((bitAt l i j = false ∧ (p1 = p2 → ¬ i < j)) ∨ (bitAt l i j = true ∧ bitAt l j i = false ∧ bitAt l j k = false)) ∨ (bitAt l i j = true ∧ bitAt l j i = false ∧ bitAt l j k = true ∧ bitAt l i k = true) := by
    have t1 := hT1H.out
    have t2 := hT2H.out
    have t3 := hT3H.out
    revert t1 t2 t3
    generalize bitAt l i j = a
    generalize bitAt l j k = b
    generalize bitAt l i k = c
    generalize bitAt l j i = d
    intro t1 t2 t3
    cases a <;> cases b <;> cases c <;> cases d <;> simp_all
  clear hT1H hT2H hT3H
  generalize bitAt l i j = a at *
  generalize bitAt l j k = b at *
  generalize bitAt l i k = c at *
  generalize bitAt l j i = d at *
  rcases hcs with (⟨rfl, hs⟩ | ⟨rfl, rfl, rfl⟩) | ⟨rfl, rfl, rfl, rfl⟩
  · by_cases hp : p1 = p2
    · have hb1 : (p1 == p2) = true := by simp [hp]
      have hij := hs hp
      have hij' : decide (i < j) = false := by simp [hij]
      clear hs hp
      go_wp2_with fail
      go_quiet (fail)
      go_wp2
      go_ret
      exact ⟨rfl, below_drewN hB13 _⟩
    · have hb1 : (p1 == p2) = false := by simp [hp]
      clear hs hp
      go_wp2_with fail
      go_quiet (fail)
      go_wp2
      go_ret
      exact ⟨rfl, below_drewN hB13 _⟩
  all_goals
    by_cases hp : p1 = p2
    · have hb1 : (p1 == p2) = true := by simp [hp]
      clear hp
      by_cases hij : i < j
      · have hij' : decide (i < j) = true := by simp [hij]
        go_wp2_with fail
        go_quiet (fail)
        go_wp2
        go_ret
        exact ⟨rfl, below_drewN hB13 _⟩
      · have hij' : decide (i < j) = false := by simp [hij]
        go_wp2_with fail
        go_quiet (fail)
        go_wp2
        go_ret
        exact ⟨rfl, below_drewN hB13 _⟩
    · have hb1 : (p1 == p2) = false := by simp [hp]
      clear hp
      go_wp2_with fail
      go_quiet (fail)
      go_wp2
      go_ret
      exact ⟨rfl, below_drewN hB13 _⟩

set_option maxHeartbeats 1000000 in
theorem trans_some (w : World) (n : Int) (A : Option Addr) (cap : Nat) (l : List Ev) (hE : Evs w w.heap.size A l) (hF : Fits l) (hcap : l.length ≤ cap) (i : Nat) (j k : Int) (h0 : checkCode n l = 0) (hi : i < l.length) (hjk : ¬ ((0 ≤ j ∧ j < l.length) ∧ (0 ≤ k ∧ k < l.length))) :
    Calls Try.prog 7 #[.int .i64 n, .slice A l.length cap, .int .i64 i, .int .i64 j, .int .i64 k] w fun e w' => e = .returned (.bool true) ∧ Below w.heap.size w w' := by
  have hl : l.length ≤ maxLen := by have := (check_small h0).2.2; unfold maxLen; omega
  have h30 := (check_small h0).2.2
  have hii : bitAt l i i = false := bit_none h0 hi (fun h => by have := h.lt; omega)
  have hr : (checkCode n l == 0) = true := by simp [h0]
  have hin1 : Hid (inB l.length [(i : Int)] = true) := by unfold Hid inB; simp; omega
  have hin2 : Hid (inB l.length [j, k] = false) := by
    unfold Hid inB
    rw [← Bool.not_eq_true]
    simp only [List.all_cons, List.all_nil, Bool.and_true, Bool.and_eq_true, decide_eq_true_eq]
    exact hjk
  have h0H := Lib.hid h0
  clear h0 hjk
  go_enter Try.func7, Try.ntmps7
  go_wp2_with fail
  refine (ahead_ok A cap l n i i _ hE hF h0H.out hi hi).mono ?_
  rintro e w1 ⟨rfl, hB1⟩
  have hE1 := (hE.below hB1).more hB1.size
  go_wp2_with fail
  refine (ran_any A cap l n _ hE1 hcap hl).mono ?_
  rintro e w2 ⟨rfl, hB2'⟩
  have hB2 := hB1.trans (hB2'.mono hB1.size)
  clear hB2' hE1
  go_wp2_with fail
  refine (inside_any _ _ [(i : Int)] l.length _ (nums1 _ _ _) (by simp) true hin1).mono ?_
  rintro e w3 ⟨rfl, rfl⟩
  have hB3 : Below w.heap.size w (w2.alloc (.cells #[.int .i64 (i : Int)] 3)) := hB2.alloc hB2.size _
  clear hB2
  generalize w2.alloc (.cells #[.int .i64 (i : Int)] 3) = w4 at *
  go_wp2_with fail
  refine (inside_any _ _ [j, k] l.length _ (nums2 _ _ _ _) (by simp) false hin2).mono ?_
  rintro e w3 ⟨rfl, rfl⟩
  have hB5 : Below w.heap.size w (w4.alloc (.cells #[.int .i64 j, .int .i64 k] 3)) := hB3.alloc hB3.size _
  go_wp2_with fail
  go_ret
  exact ⟨rfl, hB5⟩

set_option maxHeartbeats 1000000 in
theorem trans_out (w : World) (n : Int) (A : Option Addr) (cap : Nat) (l : List Ev) (hE : Evs w w.heap.size A l) (hF : Fits l) (hcap : l.length ≤ cap) (i j k : Int) (h0 : checkCode n l = 0) (hi : ¬ (0 ≤ i ∧ i < l.length)) :
    Calls Try.prog 7 #[.int .i64 n, .slice A l.length cap, .int .i64 i, .int .i64 j, .int .i64 k] w fun e w' => e = .returned (.bool true) ∧ Below w.heap.size w w' := by
  have hl : l.length ≤ maxLen := by have := (check_small h0).2.2; unfold maxLen; omega
  have h30 := (check_small h0).2.2
  have hr : (checkCode n l == 0) = true := by simp [h0]
  have hin1 : Hid (inB l.length [i] = false) := by
    unfold Hid inB
    rw [← Bool.not_eq_true]
    simp only [List.all_cons, List.all_nil, Bool.and_true, decide_eq_true_eq]
    exact hi
  have hiH := Lib.hid hi
  have h0H := Lib.hid h0
  clear h0 hi
  go_enter Try.func7, Try.ntmps7
  go_wp2_with fail
  refine (ahead_out A cap l n i i _ hE hF h0H.out (fun h => hiH.out h.1)).mono ?_
  rintro e w1 ⟨rfl, hB1⟩
  have hE1 := (hE.below hB1).more hB1.size
  go_wp2_with fail
  refine (ran_any A cap l n _ hE1 hcap hl).mono ?_
  rintro e w2 ⟨rfl, hB2'⟩
  have hB2 := hB1.trans (hB2'.mono hB1.size)
  clear hB2' hE1
  go_wp2_with fail
  refine (inside_any _ _ [i] l.length _ (nums1 _ _ _) (by simp) false hin1).mono ?_
  rintro e w3 ⟨rfl, rfl⟩
  have hB3 : Below w.heap.size w (w2.alloc (.cells #[.int .i64 i] 3)) := hB2.alloc hB2.size _
  go_wp2_with fail
  go_ret
  exact ⟨rfl, hB3⟩

set_option maxHeartbeats 1000000 in
theorem trans_no (w : World) (n : Int) (A : Option Addr) (cap : Nat) (l : List Ev) (hE : Evs w w.heap.size A l) (hF : Fits l) (hcap : l.length ≤ cap) (hl : l.length ≤ maxLen) (i j k : Int) (h0 : ¬ checkCode n l = 0) :
    Calls Try.prog 7 #[.int .i64 n, .slice A l.length cap, .int .i64 i, .int .i64 j, .int .i64 k] w fun e w' => e = .returned (.bool true) ∧ Below w.heap.size w w' := by
  have hr : (checkCode n l == 0) = false := by simp [h0]
  have hr' : (checkCode n l != 0) = true := by simp [h0]
  have h0H := Lib.hid h0
  clear h0
  go_enter Try.func7, Try.ntmps7
  go_wp2_with fail
  refine (ahead_no A cap l n i i _ hE hF hl h0H.out).mono ?_
  rintro e w1 ⟨rfl, hB1⟩
  have hE1 := (hE.below hB1).more hB1.size
  go_wp2_with fail
  refine (ran_any A cap l n _ hE1 hcap hl).mono ?_
  rintro e w2 ⟨rfl, hB2'⟩
  have hB2 := hB1.trans (hB2'.mono hB1.size)
  clear hB2' hE1
  go_wp2_with fail
  go_ret
  exact ⟨rfl, hB2⟩

theorem runTrans_law (w : World) (n : Int) (_hn : I64 n) (A : Option Addr) (cap : Nat) (l : List Ev) (hE : Evs w w.heap.size A l) (hF : Fits l) (hcap : l.length ≤ cap) (hl : l.length ≤ maxLen) (_hs : l.length ≤ 17592186044416) (i : Int) (_hi : I64 i) (j : Int) (_hj : I64 j) (k : Int) (_hk : I64 k) :
    Calls Try.prog 7 #[.int .i64 n, .slice A l.length cap, .int .i64 i, .int .i64 j, .int .i64 k] w fun e w' => e = .returned (.bool true) ∧ Below w.heap.size w w' := by
  by_cases h0 : checkCode n l = 0
  · by_cases hi : 0 ≤ i ∧ i < l.length
    · obtain ⟨x, rfl⟩ := Int.eq_ofNat_of_zero_le hi.1
      by_cases hjk : (0 ≤ j ∧ j < l.length) ∧ (0 ≤ k ∧ k < l.length)
      · obtain ⟨y, rfl⟩ := Int.eq_ofNat_of_zero_le hjk.1.1
        obtain ⟨z, rfl⟩ := Int.eq_ofNat_of_zero_le hjk.2.1
        exact trans_main w n A cap l hE hF hcap x y z h0 (by omega) (by omega) (by omega)
      · exact trans_some w n A cap l hE hF hcap x j k h0 (by omega) hjk
    · exact trans_out w n A cap l hE hF hcap i j k h0 hi
  · exact trans_no w n A cap l hE hF hcap hl i j k h0

#print axioms runTrans_law
end Go.Proofs.Ytomkecogmocnmaa
