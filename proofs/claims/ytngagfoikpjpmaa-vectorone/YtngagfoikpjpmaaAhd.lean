/-
  The contract of run.Ahead.
-/
import Derived.Test.YtngagfoikpjpmaaHas
import Derived.Test.YtngagfoikpjpmaaChk
import Derived.Test.YtngagfoikpjpmaaValid
namespace Go.Proofs.Ytngagfoikpjpmaa
open Go.RowKit Go.Maps

set_option maxHeartbeats 400000 in
theorem ahead_any (A : Option Addr) (cap : Nat) (l : List Ev) (n i j : Int) (w : World) (hE : Evs w w.heap.size A l) (hF : Fits l) (hl : l.length ≤ maxLen) :
    Calls Try.prog 18 #[.int .i64 n, .slice A l.length cap, .int .i64 i, .int .i64 j] w fun e w' => e = .returned (.tuple #[.bool (aheadB n l i j), .int .i64 (aheadCode n l i j)]) ∧ Below w.heap.size w w' := by
  by_cases h0 : checkCode n l = 0
  · obtain ⟨_, _, h30⟩ := check_small h0
    by_cases hr : (0 ≤ i ∧ i < l.length) ∧ (0 ≤ j ∧ j < l.length)
    · have e1 : aheadCode n l i j = 0 := by unfold aheadCode; rw [if_pos h0, if_pos hr]
      have e2 : aheadB n l i j = bitAt l i.toNat j.toNat := by unfold aheadB; rw [if_pos e1]
      rw [e1, e2]
      clear e1 e2
      obtain ⟨⟨i0, i1⟩, j0, j1⟩ := hr
      obtain ⟨x, rfl⟩ := Int.eq_ofNat_of_zero_le i0
      obtain ⟨y, rfl⟩ := Int.eq_ofNat_of_zero_le j0
      rw [Int.toNat_natCast, Int.toNat_natCast]
      have hx : x < l.length := by omega
      have hy : y < l.length := by omega
      have hyp : y < (pasts l).length := by rw [pasts_len]; exact hy
      have hb : Hid (bitAt l x y = ((pasts l)[y]).testBit x) := by unfold Hid bitAt; simp [hyp]
      have hlt := past_lt l h30 y hyp
      have hb0 : (checkCode n l != 0) = false := by simp [h0]
      have h0H := Lib.hid h0
      clear h0 i0 i1 j0 j1
      go_enter Try.func18, Try.ntmps18
      go_wp2_with fail
      refine (check_any A cap l n _ hE hF hl).mono ?_
      rintro e w1 ⟨rfl, hB1⟩
      go_wp2_with fail
      refine (pasts_any A cap l _ ((hE.below hB1).more hB1.size) hF h30).mono ?_
      rintro e w2 ⟨rfl, hR, hB2⟩
      have hcell := hR.cell (i := y) (by simp [wordsOf]; exact hyp)
      simp only [wordsOf, List.getElem_map] at hcell
      have hB := hB1.trans (hB2.mono hB1.size)
      generalize (pasts l)[y] = v at *
      go_wp2_with fail
      refine (has_any v x _ hlt (by omega)).mono ?_
      rintro e w3 ⟨rfl, rfl⟩
      go_wp2_with fail
      go_ret2
      exact ⟨by rw [hb.out]; rfl, hB⟩
    · have e1 : aheadCode n l i j = 4 := by unfold aheadCode; rw [if_pos h0, if_neg hr]
      have e2 : aheadB n l i j = false := by unfold aheadB; rw [if_neg (by omega)]
      rw [e1, e2]
      clear e1 e2
      have hb0 : (checkCode n l != 0) = false := by simp [h0]
      have h0H := Lib.hid h0
      clear h0
      by_cases a1 : i < 0
      · clear hr
        go_enter Try.func18, Try.ntmps18
        go_wp2_with fail
        refine (check_any A cap l n _ hE hF hl).mono ?_
        rintro e w1 ⟨rfl, hB1⟩
        go_wp2_with fail
        go_ret2
        exact ⟨rfl, hB1⟩
      by_cases a2 : (l.length : Int) ≤ i
      · clear hr
        go_enter Try.func18, Try.ntmps18
        go_wp2_with fail
        refine (check_any A cap l n _ hE hF hl).mono ?_
        rintro e w1 ⟨rfl, hB1⟩
        go_wp2_with fail
        go_ret2
        exact ⟨rfl, hB1⟩
      by_cases a3 : j < 0
      · clear hr
        go_enter Try.func18, Try.ntmps18
        go_wp2_with fail
        refine (check_any A cap l n _ hE hF hl).mono ?_
        rintro e w1 ⟨rfl, hB1⟩
        go_wp2_with fail
        go_ret2
        exact ⟨rfl, hB1⟩
      · have a4 : (l.length : Int) ≤ j := by omega
        clear hr
        go_enter Try.func18, Try.ntmps18
        go_wp2_with fail
        refine (check_any A cap l n _ hE hF hl).mono ?_
        rintro e w1 ⟨rfl, hB1⟩
        go_wp2_with fail
        go_ret2
        exact ⟨rfl, hB1⟩
  · have e1 : aheadCode n l i j = checkCode n l := by unfold aheadCode; rw [if_neg h0]
    have e2 : aheadB n l i j = false := by unfold aheadB; rw [if_neg (by omega)]
    rw [e1, e2]
    clear e1 e2
    have hb0 : (checkCode n l != 0) = true := by simp [h0]
    have h0H := Lib.hid h0
    clear h0
    go_enter Try.func18, Try.ntmps18
    go_wp2_with fail
    refine (check_any A cap l n _ hE hF hl).mono ?_
    rintro e w1 ⟨rfl, hB1⟩
    go_wp2_with fail
    go_ret2
    exact ⟨rfl, hB1⟩

theorem ahead_ok (A : Option Addr) (cap : Nat) (l : List Ev) (n : Int) (x y : Nat) (w : World) (hE : Evs w w.heap.size A l) (hF : Fits l) (h0 : checkCode n l = 0) (hx : x < l.length) (hy : y < l.length) :
    Calls Try.prog 18 #[.int .i64 n, .slice A l.length cap, .int .i64 x, .int .i64 y] w fun e w' => e = .returned (.tuple #[.bool (bitAt l x y), .int .i64 0]) ∧ Below w.heap.size w w' := by
  have e1 : aheadCode n l x y = 0 := by unfold aheadCode; rw [if_pos h0, if_pos (by omega)]
  have e2 : aheadB n l x y = bitAt l x y := by unfold aheadB; rw [if_pos e1]; simp
  have := ahead_any A cap l n x y w hE hF (by have := (check_small h0).2.2; unfold maxLen; omega)
  rw [e1, e2] at this
  exact this

theorem ahead_no (A : Option Addr) (cap : Nat) (l : List Ev) (n : Int) (x y : Int) (w : World) (hE : Evs w w.heap.size A l) (hF : Fits l) (hl : l.length ≤ maxLen) (h0 : ¬ checkCode n l = 0) :
    Calls Try.prog 18 #[.int .i64 n, .slice A l.length cap, .int .i64 x, .int .i64 y] w fun e w' => e = .returned (.tuple #[.bool false, .int .i64 (checkCode n l)]) ∧ Below w.heap.size w w' := by
  have e1 : aheadCode n l x y = checkCode n l := by unfold aheadCode; rw [if_neg h0]
  have e2 : aheadB n l x y = false := by unfold aheadB; rw [if_neg (by omega)]
  have := ahead_any A cap l n x y w hE hF hl
  rw [e1, e2] at this
  exact this

theorem ahead_out (A : Option Addr) (cap : Nat) (l : List Ev) (n : Int) (x y : Int) (w : World) (hE : Evs w w.heap.size A l) (hF : Fits l) (h0 : checkCode n l = 0) (hr : ¬ ((0 ≤ x ∧ x < l.length) ∧ (0 ≤ y ∧ y < l.length))) :
    Calls Try.prog 18 #[.int .i64 n, .slice A l.length cap, .int .i64 x, .int .i64 y] w fun e w' => e = .returned (.tuple #[.bool false, .int .i64 4]) ∧ Below w.heap.size w w' := by
  have e1 : aheadCode n l x y = 4 := by unfold aheadCode; rw [if_pos h0, if_neg hr]
  have e2 : aheadB n l x y = false := by unfold aheadB; rw [if_neg (by omega)]
  have := ahead_any A cap l n x y w hE hF (by have := (check_small h0).2.2; unfold maxLen; omega)
  rw [e1, e2] at this
  exact this

#print axioms ahead_any
end Go.Proofs.Ytngagfoikpjpmaa
