/-
  The walk of the law VectorAhead: what happens before has the lesser vector, and only that.
-/
import Derived.Test.YtngagfoikpjpmaaVVs
import Derived.Test.YtngagfoikpjpmaaVLs
import Derived.Test.YtngagfoikpjpmaaIns
import Derived.Test.YtngagfoikpjpmaaRan
import Derived.Test.YtngagfoikpjpmaaAhd
import Derived.BigQuiet
import Derived.Deep.QuietTactic
import Derived.Lib.QuietBelow
namespace Go.Proofs.Ytngagfoikpjpmaa
open Go.RowKit Go.Maps

/-- The vectors of two events tell which happens before. -/
theorem less_hb {c : Nat} {l : List Ev} (h0 : checkCode (c : Int) l = 0) {i j : Nat} (hi : i < l.length) (hj : j < l.length) : bitAt l i j = true ↔ LessV (vlist l c i) (vlist l c j) := by
  rw [bit_hb h0 i hj, hb_vec (check_good.1 h0).2 hi hj]
  unfold LessV
  rw [vlist_len]
  constructor
  · rintro ⟨h1, p, h2, h3⟩
    refine ⟨fun x hx => ?_, p, h2, ?_⟩
    · rw [vlist_at l i hx, vlist_at l j hx]
      have := h1 x hx
      omega
    · rw [vlist_at l i h2, vlist_at l j h2]
      omega
  · rintro ⟨h1, p, h2, h3⟩
    refine ⟨fun x hx => ?_, p, h2, ?_⟩
    · have := h1 x hx
      rw [vlist_at l i hx, vlist_at l j hx] at this
      omega
    · rw [vlist_at l i h2, vlist_at l j h2] at h3
      omega
theorem vlist_good {c : Nat} {l : List Ev} (h0 : checkCode (c : Int) l = 0) (i j : Nat) : VGood (vlist l c i) (vlist l c j) := by
  have := check_small h0
  refine ⟨by rw [vlist_len]; omega, by rw [vlist_len, vlist_len], fun x hx => ?_, fun x hx => ?_⟩
  · rw [vlist_len] at hx; rw [vlist_at l i hx]; omega
  · rw [vlist_len] at hx; rw [vlist_at l j hx]; omega

set_option maxHeartbeats 1000000 in
theorem vecahead_no (w : World) (n : Int) (A : Option Addr) (cap : Nat) (l : List Ev) (hE : Evs w w.heap.size A l) (hF : Fits l) (hcap : l.length ≤ cap) (hl : l.length ≤ maxLen) (i j : Int) (h0 : ¬ checkCode n l = 0) :
    Calls Try.prog 6 #[.int .i64 n, .slice A l.length cap, .int .i64 i, .int .i64 j] w fun e w' => e = .returned (.bool true) ∧ Below w.heap.size w w' := by
  have hr : (checkCode n l == 0) = false := by simp [h0]
  have hr' : (checkCode n l != 0) = true := by simp [h0]
  have h0H := Lib.hid h0
  clear h0
  go_enter Try.func6, Try.ntmps6
  go_wp2_with fail
  refine (vectors_no A cap l n _ hE hF hl h0H.out).mono ?_
  rintro e w1 ⟨rfl, hB1⟩
  go_wp2_with fail
  refine (ahead_no A cap l n i j _ ((hE.below hB1).more hB1.size) hF hl h0H.out).mono ?_
  rintro e w2 ⟨rfl, hB2'⟩
  have hB2 := hB1.trans (hB2'.mono hB1.size)
  clear hB2' hB1
  go_wp2_with fail
  refine (ran_any A cap l n _ ((hE.below hB2).more hB2.size) hcap hl).mono ?_
  rintro e w3 ⟨rfl, hB3'⟩
  have hB3 := hB2.trans (hB3'.mono hB2.size)
  go_wp2_with fail
  go_ret
  exact ⟨rfl, hB3⟩

set_option maxHeartbeats 2000000 in
set_option maxRecDepth 100000 in
theorem vecahead_out (w : World) (c : Nat) (A : Option Addr) (cap : Nat) (l : List Ev) (hE : Evs w w.heap.size A l) (hF : Fits l) (hcap : l.length ≤ cap) (i j : Int) (h0 : checkCode (c : Int) l = 0) (hij : ¬ ((0 ≤ i ∧ i < l.length) ∧ (0 ≤ j ∧ j < l.length))) :
    Calls Try.prog 6 #[.int .i64 (c : Int), .slice A l.length cap, .int .i64 i, .int .i64 j] w fun e w' => e = .returned (.bool true) ∧ Below w.heap.size w w' := by
  have hr : (checkCode (c : Int) l == 0) = true := by simp [h0]
  have h30 := (check_small h0).2.2
  have hl : l.length ≤ maxLen := by unfold maxLen; omega
  have hin : Hid (inB l.length [i, j] = false) := by
    unfold Hid inB
    rw [← Bool.not_eq_true]
    simp only [List.all_cons, List.all_nil, Bool.and_true, Bool.and_eq_true, decide_eq_true_eq]
    exact hij
  have hijH := Lib.hid hij
  have h0H := Lib.hid h0
  clear h0 hij
  go_enter Try.func6, Try.ntmps6
  go_wp2_with fail
  refine (vectors_ok A cap l c _ hE hF h0H.out).mono ?_
  rintro e w1 ⟨T, gs, rfl, hO1, hB1⟩
  clear hO1
  go_wp2_with fail
  refine (ahead_out A cap l (c : Int) i j _ ((hE.below hB1).more hB1.size) hF h0H.out hijH.out).mono ?_
  rintro e w2 ⟨rfl, hB2'⟩
  have hB2 := hB1.trans (hB2'.mono hB1.size)
  clear hB2' hB1
  go_wp2_with fail
  refine (ran_any A cap l (c : Int) _ ((hE.below hB2).more hB2.size) hcap hl).mono ?_
  rintro e w3 ⟨rfl, hB3'⟩
  have hB3 := hB2.trans (hB3'.mono hB2.size)
  clear hB3' hB2
  go_wp2_with fail
  refine (inside_any _ _ [i, j] l.length _ (nums2 _ _ _ _) (by simp) false hin).mono ?_
  rintro e w4 ⟨rfl, rfl⟩
  have hB4 : Below w.heap.size w (w3.alloc (.cells #[.int .i64 i, .int .i64 j] 3)) := hB3.alloc hB3.size _
  go_wp2_with fail
  go_ret
  exact ⟨rfl, hB4⟩

set_option maxHeartbeats 4000000 in
set_option maxRecDepth 100000 in
theorem vecahead_in (w : World) (c : Nat) (A : Option Addr) (cap : Nat) (l : List Ev) (hE : Evs w w.heap.size A l) (hF : Fits l) (hcap : l.length ≤ cap) (i j : Nat) (h0 : checkCode (c : Int) l = 0) (hi : i < l.length) (hj : j < l.length) :
    Calls Try.prog 6 #[.int .i64 (c : Int), .slice A l.length cap, .int .i64 i, .int .i64 j] w fun e w' => e = .returned (.bool true) ∧ Below w.heap.size w w' := by
  have hr : (checkCode (c : Int) l == 0) = true := by simp [h0]
  have h30 := (check_small h0).2.2
  have hl : l.length ≤ maxLen := by unfold maxLen; omega
  have hin : Hid (inB l.length [(i : Int), (j : Int)] = true) := by unfold Hid inB; simp; omega
  have hbit : Hid (bitAt l i j = true ↔ LessV (vlist l c i) (vlist l c j)) := less_hb h0 hi hj
  have hgd := Lib.hid (vlist_good h0 i j)
  have h0H := Lib.hid h0
  clear h0
  go_enter Try.func6, Try.ntmps6
  go_wp2_with fail
  refine (vectors_ok A cap l c _ hE hF h0H.out).mono ?_
  rintro e w1 ⟨T, gs, rfl, hO1, hB1⟩
  go_wp2_with fail
  refine (ahead_ok A cap l (c : Int) i j _ ((hE.below hB1).more hB1.size) hF h0H.out hi hj).mono ?_
  rintro e w2 ⟨rfl, hB2'⟩
  have hO2 := hO1.below hB2'
  have hB2 := hB1.trans (hB2'.mono hB1.size)
  clear hB2' hB1 hO1
  go_wp2_with fail
  refine (ran_any A cap l (c : Int) _ ((hE.below hB2).more hB2.size) hcap hl).mono ?_
  rintro e w3 ⟨rfl, hB3'⟩
  have hO3 := hO2.below hB3'
  have hB3 := hB2.trans (hB3'.mono hB2.size)
  clear hB3' hB2 hO2
  go_wp2_with fail
  refine (inside_any _ _ [(i : Int), (j : Int)] l.length _ (nums2 _ _ _ _) (by simp) true hin).mono ?_
  rintro e w4 ⟨rfl, rfl⟩
  have hB4 : Below w.heap.size w (w3.alloc (.cells #[.int .i64 (i : Int), .int .i64 (j : Int)] 3)) := hB3.alloc hB3.size _
  have hO4 := hO3.below ((Below.refl w3.heap.size w3).alloc (Nat.le_refl _) (.cells #[.int .i64 (i : Int), .int .i64 (j : Int)] 3))
  generalize w3.alloc (.cells #[.int .i64 (i : Int), .int .i64 (j : Int)] 3) = w5 at *
  clear hB3 hO3
  generalize bitAt l i j = C at *
  have y1 := cell_regrown (hO4.slot i hi)
  have y2 := cell_regrown (hO4.slot j hj)
  have hiI : (i : Int) < (l.length : Int) := by omega
  have hjI : (j : Int) < (l.length : Int) := by omega
  have cA : Hid (∀ d os, Calls Try.prog 14 #[.slice (some ⟨gs i, 0, none⟩) c c, .slice (some ⟨gs j, 0, none⟩) c c] (Sort.grow (redrawn w5 d) os) fun e w'' => e = .returned (.tuple #[.bool C, .int .i64 0]) ∧ ∃ p : Regrown, w'' = Sort.grow (redrawn w5 p.d) p.os) := fun d os => Calls.regrown_of (by
    have hO5 := hO4.below (below_regrown w5 d os)
    have := vless_ok (some ⟨gs i, 0, none⟩) (some ⟨gs j, 0, none⟩) c c (vlist l c i) (vlist l c j) _ (hO5.nums i hi) (hO5.nums j hj) hgd.out C hbit
    rw [vlist_len, vlist_len] at this
    exact this)
  clear hO4 hbit
  generalize gs i = gi at *
  generalize gs j = gj at *
  go_wp2_with fail
  refine wp_region_quiet_below (by kernel_rfl) (by kernel_rfl) ?_
  repeat (quiet_step (exact cA.out _ _))
  refine wpQuiet_nil ?_
  intro _ hw'
  obtain ⟨⟨dq, osq⟩, hw''⟩ := hw'
  subst hw''
  have hB6 := hB4.trans ((below_regrown w5 dq osq).mono hB4.size)
  generalize Sort.grow (redrawn w5 dq) osq = w7 at *
  clear y1 y2
  go_wp2_with fail
  go_ret
  exact ⟨by simp, hB6⟩

theorem vectorAhead_law (w : World) (n : Int) (_hn : I64 n) (A : Option Addr) (cap : Nat) (l : List Ev) (hE : Evs w w.heap.size A l) (hF : Fits l) (hcap : l.length ≤ cap) (hl : l.length ≤ maxLen) (_hs : l.length ≤ 17592186044416) (i : Int) (_hi : I64 i) (j : Int) (_hj : I64 j) :
    Calls Try.prog 6 #[.int .i64 n, .slice A l.length cap, .int .i64 i, .int .i64 j] w fun e w' => e = .returned (.bool true) ∧ Below w.heap.size w w' := by
  by_cases h0 : checkCode n l = 0
  · have hn := (check_small h0).1
    obtain ⟨c, rfl⟩ := Int.eq_ofNat_of_zero_le (show 0 ≤ n by omega)
    by_cases hij : (0 ≤ i ∧ i < l.length) ∧ (0 ≤ j ∧ j < l.length)
    · obtain ⟨x, rfl⟩ := Int.eq_ofNat_of_zero_le hij.1.1
      obtain ⟨y, rfl⟩ := Int.eq_ofNat_of_zero_le hij.2.1
      exact vecahead_in w c A cap l hE hF hcap x y h0 (by omega) (by omega)
    · exact vecahead_out w c A cap l hE hF hcap i j h0 hij
  · exact vecahead_no w n A cap l hE hF hcap hl i j h0

#print axioms vectorAhead_law
end Go.Proofs.Ytngagfoikpjpmaa
