/-
  The walk of the law RunFirst: what comes later is no matter.
-/
import Derived.Test.YtomkecogmocnmaaRan
namespace Go.Proofs.Ytomkecogmocnmaa
open Go.RowKit Go.Maps

theorem pre_len (l : List Ev) {q : Nat} (hq : q ≤ l.length) : (l.take q).length = q := by simp; omega

theorem ahead_pre (A : Option Addr) (cap : Nat) (l : List Ev) (q : Nat) (hq : q ≤ l.length) (n i j : Int) (w : World) (hE : Evs w w.heap.size A l) (hF : Fits l) (hl : l.length ≤ maxLen) :
    Calls Try.prog 13 #[.int .i64 n, .slice A q cap, .int .i64 i, .int .i64 j] w fun e w' => e = .returned (.tuple #[.bool (aheadB n (l.take q) i j), .int .i64 (aheadCode n (l.take q) i j)]) ∧ Below w.heap.size w w' := by
  have := ahead_any A cap (l.take q) n i j w (hE.take q) (hF.take q) (by rw [pre_len l hq]; omega)
  rw [pre_len l hq] at this
  exact this

set_option maxHeartbeats 1000000 in
set_option maxRecDepth 100000 in
theorem first_no (w : World) (n : Int) (A : Option Addr) (cap : Nat) (l : List Ev) (hE : Evs w w.heap.size A l) (hF : Fits l) (hcap : l.length ≤ cap) (hs : l.length ≤ 17592186044416) (k : Int) (hk0 : 0 ≤ k) (hk1 : k ≤ 255) (q : Nat) (hq : q ≤ l.length) (hmod : k % ((l.length : Int) + 1) = (q : Int)) (i j : Int) (h0 : ¬ checkCode n l = 0) :
    Calls Try.prog 8 #[.int .i64 n, .slice A l.length cap, .int .u8 k, .int .i64 i, .int .i64 j] w fun e w' => e = .returned (.bool true) ∧ Below w.heap.size w w' := by
  have hr : (checkCode n l == 0) = false := by simp [h0]
  have hr' : (checkCode n l != 0) = true := by simp [h0]
  have hl : l.length ≤ maxLen := by unfold maxLen; omega
  have h0H := Lib.hid h0
  clear h0
  go_enter Try.func8, Try.ntmps8
  go_wp2_with fail
  refine (ahead_no A cap l n i j _ hE hF hl h0H.out).mono ?_
  rintro e w1 ⟨rfl, hB1⟩
  have hE1 := (hE.below hB1).more hB1.size
  go_wp2_with fail
  refine (ahead_pre A cap l q hq n i j _ hE1 hF hl).mono ?_
  rintro e w2 ⟨rfl, hB2'⟩
  have hB2 := hB1.trans (hB2'.mono hB1.size)
  clear hB2' hE1
  go_wp2_with fail
  refine (ran_any A cap l n _ ((hE.below hB2).more hB2.size) hcap hl).mono ?_
  rintro e w3 ⟨rfl, hB3'⟩
  have hB3 := hB2.trans (hB3'.mono hB2.size)
  clear hB3'
  go_wp2_with fail
  go_ret
  exact ⟨rfl, hB3⟩

set_option maxHeartbeats 1000000 in
set_option maxRecDepth 100000 in
theorem first_out (w : World) (n : Int) (A : Option Addr) (cap : Nat) (l : List Ev) (hE : Evs w w.heap.size A l) (hF : Fits l) (hcap : l.length ≤ cap) (hs : l.length ≤ 17592186044416) (k : Int) (hk0 : 0 ≤ k) (hk1 : k ≤ 255) (q : Nat) (hq : q ≤ l.length) (hmod : k % ((l.length : Int) + 1) = (q : Int)) (i j : Int) (h0 : checkCode n l = 0) (hij : ¬ ((0 ≤ i ∧ i < q) ∧ (0 ≤ j ∧ j < q))) :
    Calls Try.prog 8 #[.int .i64 n, .slice A l.length cap, .int .u8 k, .int .i64 i, .int .i64 j] w fun e w' => e = .returned (.bool true) ∧ Below w.heap.size w w' := by
  have hr : (checkCode n l == 0) = true := by simp [h0]
  have hl : l.length ≤ maxLen := by unfold maxLen; omega
  have h1 := check_front h0 q
  have e1 : aheadCode n (l.take q) i j = 4 := by unfold aheadCode; rw [if_pos h1, if_neg (by rw [pre_len l hq]; exact hij)]
  have hin : Hid (inB q [i, j] = false) := by
    unfold Hid inB
    rw [← Bool.not_eq_true]
    simp only [List.all_cons, List.all_nil, Bool.and_true, Bool.and_eq_true, decide_eq_true_eq]
    exact hij
  have hc : (aheadCode n l i j != 0) = true ∨ (aheadCode n l i j != 0) = false := by cases (aheadCode n l i j != 0) <;> simp
  clear h0 h1 hij
  rcases hc with hc | hc
  all_goals
    go_enter Try.func8, Try.ntmps8
    go_wp2_with fail
    refine (ahead_any A cap l n i j _ hE hF hl).mono ?_
    rintro e w1 ⟨rfl, hB1⟩
    have hE1 := (hE.below hB1).more hB1.size
    go_wp2_with fail
    refine (ahead_pre A cap l q hq n i j _ hE1 hF hl).mono ?_
    rintro e w2 ⟨rfl, hB2'⟩
    have hB2 := hB1.trans (hB2'.mono hB1.size)
    clear hB2' hE1
    go_wp2_with fail
    refine (ran_any A cap l n _ ((hE.below hB2).more hB2.size) hcap hl).mono ?_
    rintro e w3 ⟨rfl, hB3'⟩
    have hB3 := hB2.trans (hB3'.mono hB2.size)
    clear hB3'
    go_wp2_with fail
    refine (inside_any _ _ [i, j] q _ (nums2 _ _ _ _) (by simp) false hin).mono ?_
    rintro e w4 ⟨rfl, rfl⟩
    have hB4 : Below w.heap.size w (w3.alloc (.cells #[.int .i64 i, .int .i64 j] 3)) := hB3.alloc hB3.size _
    go_wp2_with fail
    go_ret
    exact ⟨rfl, hB4⟩

theorem bit_take {n : Int} {l : List Ev} (h : checkCode n l = 0) {q i j : Nat} (hq : q ≤ l.length) (hj : j < q) : bitAt (l.take q) i j = bitAt l i j := by
  rw [Bool.eq_iff_iff, bit_hb (check_front h q) i (by rw [pre_len l hq]; exact hj), bit_hb h i (by omega), hb_take l (by rw [pre_len l hq]; exact hj)]

set_option maxHeartbeats 2000000 in
set_option maxRecDepth 100000 in
theorem first_in (w : World) (n : Int) (A : Option Addr) (cap : Nat) (l : List Ev) (hE : Evs w w.heap.size A l) (hF : Fits l) (hcap : l.length ≤ cap) (hs : l.length ≤ 17592186044416) (k : Int) (hk0 : 0 ≤ k) (hk1 : k ≤ 255) (q : Nat) (hq : q ≤ l.length) (hmod : k % ((l.length : Int) + 1) = (q : Int)) (i j : Nat) (h0 : checkCode n l = 0) (hi : i < q) (hj : j < q) :
    Calls Try.prog 8 #[.int .i64 n, .slice A l.length cap, .int .u8 k, .int .i64 i, .int .i64 j] w fun e w' => e = .returned (.bool true) ∧ Below w.heap.size w w' := by
  have hr : (checkCode n l == 0) = true := by simp [h0]
  have hl : l.length ≤ maxLen := by unfold maxLen; omega
  have h30 := (check_small h0).2.2
  have hil : i < l.length := by omega
  have hjl : j < l.length := by omega
  have h1 := check_front h0 q
  have e1 : aheadCode n (l.take q) i j = 0 := by unfold aheadCode; rw [if_pos h1, if_pos (by rw [pre_len l hq]; omega)]
  have e2 : aheadB n (l.take q) i j = bitAt l i j := by unfold aheadB; rw [if_pos e1, Int.toNat_natCast, Int.toNat_natCast, bit_take h0 hq hj]
  have hjj : bitAt l j j = false := bit_none h0 hjl (fun h => by have := h.lt; omega)
  have hin : Hid (inB q [(i : Int), (j : Int)] = true) := by unfold Hid inB; simp; omega
  have hlt : Hid (bitAt l i j = true → i < j) := fun h => ((bit_hb h0 i hjl).1 h).lt.1
  have hsm : Hid ((ev l i).p = (ev l j).p → i < j → bitAt l i j = true) := fun hp hij => (bit_hb h0 i hjl).2 (.of ⟨hij, hjl, .inl hp⟩)
  have h0H := Lib.hid h0
  clear h0 h1
  go_enter Try.func8, Try.ntmps8
  go_wp2_with fail
  refine (ahead_ok A cap l n i j _ hE hF h0H.out hil hjl).mono ?_
  rintro e w1 ⟨rfl, hB1⟩
  have hE1 := (hE.below hB1).more hB1.size
  go_wp2_with fail
  refine (ahead_pre A cap l q hq n i j _ hE1 hF hl).mono ?_
  rintro e w2 ⟨rfl, hB2'⟩
  have hB2 := hB1.trans (hB2'.mono hB1.size)
  clear hB2' hE1
  go_wp2_with fail
  refine (ran_any A cap l n _ ((hE.below hB2).more hB2.size) hcap hl).mono ?_
  rintro e w3 ⟨rfl, hB3'⟩
  have hB3 := hB2.trans (hB3'.mono hB2.size)
  clear hB3'
  go_wp2_with fail
  refine (inside_any _ _ [(i : Int), (j : Int)] q _ (nums2 _ _ _ _) (by simp) true hin).mono ?_
  rintro e w4 ⟨rfl, rfl⟩
  have hB4 : Below w.heap.size w (w3.alloc (.cells #[.int .i64 (i : Int), .int .i64 (j : Int)] 3)) := hB3.alloc hB3.size _
  clear hB3 hB2 hB1
  generalize w3.alloc (.cells #[.int .i64 (i : Int), .int .i64 (j : Int)] 3) = w5 at *
  go_wp2_with fail
  refine (ahead_ok A cap l n j j _ ((hE.below hB4).more hB4.size) hF h0H.out hjl hjl).mono ?_
  rintro e w6 ⟨rfl, hB6'⟩
  have hB6 := hB4.trans (hB6'.mono hB4.size)
  clear hB6' hB4
  obtain ⟨b, off, rfl, hb, hc⟩ := hE.below hB6 (by omega)
  have c1 := (hc i hil).1
  have c2 := (hc j hjl).1
  clear hc e1 e2
  rw [ev_get l hil, ev_get l hjl] at hsm
  generalize l[i].p = p1 at *
  generalize l[j].p = p2 at *
  generalize bitAt l i j = a at *
  by_cases hp : p1 = p2
  · have hb1 : (p1 != p2) = false := by simp [hp]
    by_cases hij : i < j
    · have ha : a = true := hsm.out hp hij
      have hij' : decide (i < j) = true := by simp [hij]
      subst ha
      clear hp hlt hsm
      go_wp2_with fail
      go_quiet (fail)
      go_wp2
      go_ret
      exact ⟨rfl, below_drewN hB6 _⟩
    · have ha : a = false := by cases a with | false => rfl | true => exact absurd (hlt.out rfl) hij
      have hij' : decide (i < j) = false := by simp [hij]
      subst ha
      clear hp hlt hsm
      go_wp2_with fail
      go_quiet (fail)
      go_wp2
      go_ret
      exact ⟨rfl, below_drewN hB6 _⟩
  · have hb1 : (p1 != p2) = true := by simp [hp]
    clear hp hsm
    cases a with
    | false =>
      clear hlt
      go_wp2_with fail
      go_quiet (fail)
      go_wp2
      go_ret
      exact ⟨rfl, below_drewN hB6 _⟩
    | true =>
      have hij : i < j := hlt.out rfl
      have hij' : decide (i < j) = true := by simp [hij]
      clear hlt
      go_wp2_with fail
      go_quiet (fail)
      go_wp2
      go_ret
      exact ⟨rfl, below_drewN hB6 _⟩

theorem runFirst_law (w : World) (n : Int) (_hn : I64 n) (A : Option Addr) (cap : Nat) (l : List Ev) (hE : Evs w w.heap.size A l) (hF : Fits l) (hcap : l.length ≤ cap) (_hl : l.length ≤ maxLen) (hs : l.length ≤ 17592186044416) (k : Int) (hk : 0 ≤ k ∧ k ≤ 255) (i : Int) (_hi : I64 i) (j : Int) (_hj : I64 j) :
    Calls Try.prog 8 #[.int .i64 n, .slice A l.length cap, .int .u8 k, .int .i64 i, .int .i64 j] w fun e w' => e = .returned (.bool true) ∧ Below w.heap.size w w' := by
  have hm1 : 0 ≤ k % ((l.length : Int) + 1) := Int.emod_nonneg _ (by omega)
  have hm2 : k % ((l.length : Int) + 1) < (l.length : Int) + 1 := Int.emod_lt_of_pos _ (by omega)
  obtain ⟨q, hq⟩ := Int.eq_ofNat_of_zero_le hm1
  have hql : q ≤ l.length := by omega
  by_cases h0 : checkCode n l = 0
  · by_cases hij : (0 ≤ i ∧ i < q) ∧ (0 ≤ j ∧ j < q)
    · obtain ⟨x, rfl⟩ := Int.eq_ofNat_of_zero_le hij.1.1
      obtain ⟨y, rfl⟩ := Int.eq_ofNat_of_zero_le hij.2.1
      exact first_in w n A cap l hE hF hcap hs k hk.1 hk.2 q hql hq x y h0 (by omega) (by omega)
    · exact first_out w n A cap l hE hF hcap hs k hk.1 hk.2 q hql hq i j h0 hij
  · exact first_no w n A cap l hE hF hcap hs k hk.1 hk.2 q hql hq i j h0

#print axioms runFirst_law
end Go.Proofs.Ytomkecogmocnmaa
