/-
  The walk of the law RunAheads: run.Ahead and the document's table answer alike.
-/
import Derived.Test.YtomkecogmocnmaaTbl
namespace Go.Proofs.Ytomkecogmocnmaa
open Go.RowKit Go.Maps

set_option maxHeartbeats 1000000 in
theorem aheads_no (w : World) (n : Int) (A : Option Addr) (cap : Nat) (l : List Ev) (hE : Evs w w.heap.size A l) (hF : Fits l) (hcap : l.length ≤ cap) (hl : l.length ≤ maxLen) (i j : Int) (h0 : ¬ checkCode n l = 0) :
    Calls Try.prog 4 #[.int .i64 n, .slice A l.length cap, .int .i64 i, .int .i64 j] w fun e w' => e = .returned (.bool true) ∧ Below w.heap.size w w' := by
  have hr : (checkCode n l == 0) = false := by simp [h0]
  have hr' : (checkCode n l != 0) = true := by simp [h0]
  have h0H := Lib.hid h0
  clear h0
  go_enter Try.func4, Try.ntmps4
  go_wp2_with fail
  refine (ahead_no A cap l n i j _ hE hF hl h0H.out).mono ?_
  rintro e w1 ⟨rfl, hB1⟩
  go_wp2_with fail
  refine (refcheck_any A cap l n _ ((hE.below hB1).more hB1.size) hcap hl).mono ?_
  rintro e w2 ⟨rfl, hB2'⟩
  have hB2 := hB1.trans (hB2'.mono hB1.size)
  go_wp2_with fail
  go_ret
  exact ⟨rfl, hB2⟩

set_option maxHeartbeats 1000000 in
theorem aheads_out (w : World) (n : Int) (A : Option Addr) (cap : Nat) (l : List Ev) (hE : Evs w w.heap.size A l) (hF : Fits l) (hcap : l.length ≤ cap) (hl : l.length ≤ maxLen) (i j : Int) (h0 : checkCode n l = 0) (hij : ¬ ((0 ≤ i ∧ i < l.length) ∧ (0 ≤ j ∧ j < l.length))) :
    Calls Try.prog 4 #[.int .i64 n, .slice A l.length cap, .int .i64 i, .int .i64 j] w fun e w' => e = .returned (.bool true) ∧ Below w.heap.size w w' := by
  have hr : (checkCode n l == 0) = true := by simp [h0]
  have h0H := Lib.hid h0
  have hijH := Lib.hid hij
  have hc : i < 0 ∨ (¬ i < 0 ∧ (l.length : Int) ≤ i) ∨ (¬ i < 0 ∧ ¬ (l.length : Int) ≤ i ∧ j < 0) ∨ (¬ i < 0 ∧ ¬ (l.length : Int) ≤ i ∧ ¬ j < 0 ∧ (l.length : Int) ≤ j) := by omega
  clear h0 hij
  rcases hc with a1 | ⟨a1, a2⟩ | ⟨a1, a2, a3⟩ | ⟨a1, a2, a3, a4⟩
  all_goals
    go_enter Try.func4, Try.ntmps4
    go_wp2_with fail
    refine (ahead_out A cap l n i j _ hE hF h0H.out hijH.out).mono ?_
    rintro e w1 ⟨rfl, hB1⟩
    go_wp2_with fail
    refine (refcheck_any A cap l n _ ((hE.below hB1).more hB1.size) hcap hl).mono ?_
    rintro e w2 ⟨rfl, hB2'⟩
    have hB2 := hB1.trans (hB2'.mono hB1.size)
    go_wp2_with fail
    go_ret
    exact ⟨rfl, hB2⟩

set_option maxHeartbeats 1000000 in
theorem aheads_in (w : World) (n : Int) (A : Option Addr) (cap : Nat) (l : List Ev) (hE : Evs w w.heap.size A l) (hF : Fits l) (hcap : l.length ≤ cap) (hl : l.length ≤ maxLen) (i j : Nat) (h0 : checkCode n l = 0) (hi : i < l.length) (hj : j < l.length) :
    Calls Try.prog 4 #[.int .i64 n, .slice A l.length cap, .int .i64 i, .int .i64 j] w fun e w' => e = .returned (.bool true) ∧ Below w.heap.size w w' := by
  have hr : (checkCode n l == 0) = true := by simp [h0]
  have h30 := (check_small h0).2.2
  have hbit : Hid (bitAt l i j = true ↔ HB l i j) := bit_hb h0 i hj
  have h0H := Lib.hid h0
  clear h0
  go_enter Try.func4, Try.ntmps4
  go_wp2_with fail
  refine (ahead_ok A cap l n i j _ hE hF h0H.out hi hj).mono ?_
  rintro e w1 ⟨rfl, hB1⟩
  go_wp2_with fail
  refine (refcheck_any A cap l n _ ((hE.below hB1).more hB1.size) hcap hl).mono ?_
  rintro e w2 ⟨rfl, hB2'⟩
  have hB2 := hB1.trans (hB2'.mono hB1.size)
  clear hB2' hB1
  go_wp2_with fail
  refine (table_any A cap l _ ((hE.below hB2).more hB2.size) h30).mono ?_
  rintro e w3 h
  obtain ⟨rfl, gs, f, hT, hf, hB3'⟩ := h
  have hB3 := hB2.trans (hB3'.mono hB2.size)
  have s1 := hT.slot hi hi
  have x1 := hT.cell hi hj
  have hfb : bitAt l i j = f i j := by rw [Bool.eq_iff_iff, hbit.out, hf i j hi hj]
  rw [hfb]
  clear hT hf hB3' hB2 hbit hfb
  generalize w2.heap.size = T at *
  generalize gs i = g at *
  generalize f i j = a at *
  cases a
  all_goals
    go_wp2_with fail
    go_ret
    exact ⟨rfl, hB3⟩

theorem runAheads_law (w : World) (n : Int) (_hn : I64 n) (A : Option Addr) (cap : Nat) (l : List Ev) (hE : Evs w w.heap.size A l) (hF : Fits l) (hcap : l.length ≤ cap) (hl : l.length ≤ maxLen) (_hs : l.length ≤ 17592186044416) (i : Int) (_hi : I64 i) (j : Int) (_hj : I64 j) :
    Calls Try.prog 4 #[.int .i64 n, .slice A l.length cap, .int .i64 i, .int .i64 j] w fun e w' => e = .returned (.bool true) ∧ Below w.heap.size w w' := by
  by_cases h0 : checkCode n l = 0
  · by_cases hij : (0 ≤ i ∧ i < l.length) ∧ (0 ≤ j ∧ j < l.length)
    · obtain ⟨x, rfl⟩ := Int.eq_ofNat_of_zero_le hij.1.1
      obtain ⟨y, rfl⟩ := Int.eq_ofNat_of_zero_le hij.2.1
      exact aheads_in w n A cap l hE hF hcap hl x y h0 (by omega) (by omega)
    · exact aheads_out w n A cap l hE hF hcap hl i j h0 hij
  · exact aheads_no w n A cap l hE hF hcap hl i j h0

#print axioms runAheads_law
end Go.Proofs.Ytomkecogmocnmaa
