/-
  The contracts of cut.check, cut.Is.
-/
import Derived.Test.YtpofmhlmaejmoaaCon
namespace Go.Proofs.Ytpofmhlmaejmoaa
open Go.RowKit Go.Maps

def rangedB (l : List Ev) (c : Nat) (F : Nat → Int) : Bool := (List.range c).all fun (p : Nat) => decide (0 ≤ F p ∧ F p ≤ (own l (p : Int) l.length : Int))
theorem rangedB_iff (l : List Ev) (c : Nat) (F : Nat → Int) : rangedB l c F = true ↔ Ranged l c F := by
  unfold rangedB Ranged
  rw [List.all_eq_true]
  simp only [List.mem_range, decide_eq_true_eq]
/-- The code of a cut. -/
def cutC (n : Int) (l : List Ev) (cv : List Int) : Int := if checkCode n l ≠ 0 then checkCode n l else if (cv.length : Int) ≠ n then 3 else if rangedB l cv.length (vat cv) = true then 0 else 4
theorem cutC_ok {n : Int} {l : List Ev} {cv : List Int} : cutC n l cv = 0 ↔ checkCode n l = 0 ∧ (cv.length : Int) = n ∧ Ranged l cv.length (vat cv) := by
  rw [← rangedB_iff]
  unfold cutC
  by_cases h1 : checkCode n l ≠ 0
  · rw [if_pos h1]
    constructor
    · intro h; exact absurd h h1
    · intro h; exact absurd h.1 h1
  rw [if_neg h1]
  have h1 : checkCode n l = 0 := by simpa using h1
  by_cases h2 : (cv.length : Int) ≠ n
  · rw [if_pos h2]
    constructor
    · intro h; omega
    · intro h; exact absurd h.2.1 h2
  rw [if_neg h2]
  have h2 : (cv.length : Int) = n := by simpa using h2
  by_cases h3 : rangedB l cv.length (vat cv) = true
  · rw [if_pos h3]; simp [h1, h2, h3]
  · rw [if_neg h3]
    constructor
    · intro h; omega
    · intro h; exact absurd h.2.2 h3

def CkRel (w wr : World) : Prop := Below w.heap.size w wr

set_option maxHeartbeats 1000000 in
theorem ccheck_no (A Ac : Option Addr) (cap capc : Nat) (l : List Ev) (n : Int) (cv : List Int) (w : World) (hE : Evs w w.heap.size A l) (hF : Fits l) (hl : l.length ≤ maxLen) (h0 : ¬ checkCode n l = 0) :
    Calls Try.prog 26 #[.int .i64 n, .slice A l.length cap, .slice Ac cv.length capc] w fun e w' => e = .returned (.tuple #[.slice none 0 0, .int .i64 (checkCode n l)]) ∧ Below w.heap.size w w' := by
  have hb0 : (checkCode n l != 0) = true := by simp [h0]
  have h0H := Lib.hid h0
  clear h0
  go_enter Try.func26, Try.ntmps26
  go_wp2_with fail
  refine (split_no A cap l n _ hE hF hl h0H.out).mono ?_
  rintro e w1 ⟨rfl, hB1⟩
  go_wp2_with fail
  go_ret2
  exact ⟨rfl, hB1⟩

set_option maxHeartbeats 1000000 in
theorem ccheck_len (A Ac : Option Addr) (cap capc : Nat) (l : List Ev) (c : Nat) (cv : List Int) (w : World) (hE : Evs w w.heap.size A l) (hF : Fits l) (h0 : checkCode (c : Int) l = 0) (hlen : ¬ (cv.length : Int) = (c : Int)) :
    Calls Try.prog 26 #[.int .i64 (c : Int), .slice A l.length cap, .slice Ac cv.length capc] w fun e w' => e = .returned (.tuple #[.slice none 0 0, .int .i64 3]) ∧ Below w.heap.size w w' := by
  have hb1 : ((cv.length : Int) != (c : Int)) = true := by simp; omega
  have hb2 : (cv.length != c) = true := by simp; omega
  have hb3 : ¬ (cv.length = c) := by omega
  have h0H := Lib.hid h0
  clear h0
  go_enter Try.func26, Try.ntmps26
  go_wp2_with fail
  refine (split_ok A cap l c _ hE hF h0H.out).mono ?_
  rintro e w1 ⟨T, rfl, hO, hB1⟩
  go_wp2_with fail
  go_ret2
  exact ⟨rfl, hB1⟩

def CckRes (l : List Ev) (c : Nat) (F : Nat → Int) (w : World) (e : Ending) (w' : World) : Prop :=
  (Ranged l c F ∧ ∃ T, e = .returned (.tuple #[.slice (some ⟨T, 0, none⟩) c c, .int .i64 0]) ∧ HOut l c T w' ∧ Below w.heap.size w w') ∨
  (¬ Ranged l c F ∧ e = .returned (.tuple #[.slice none 0 0, .int .i64 4]) ∧ Below w.heap.size w w')

set_option maxHeartbeats 2000000 in
set_option maxRecDepth 100000 in
theorem ccheck_ok (A Ac : Option Addr) (cap capc : Nat) (l : List Ev) (c : Nat) (cv : List Int) (w : World) (hE : Evs w w.heap.size A l) (hF : Fits l) (hN : Nums w w.heap.size Ac cv) (h0 : checkCode (c : Int) l = 0) (hlen : cv.length = c) :
    Calls Try.prog 26 #[.int .i64 (c : Int), .slice A l.length cap, .slice Ac cv.length capc] w (CckRes l c (vat cv) w) := by
  have hc6 := (check_small h0).2.1
  have h30 := (check_small h0).2.2
  have h0H := Lib.hid h0
  clear h0
  rw [hlen]
  go_enter Try.func26, Try.ntmps26
  go_wp2_with fail
  refine (split_ok A cap l c _ hE hF h0H.out).mono ?_
  rintro e w1 ⟨T, rfl, hO, hB1⟩
  have hN1 := (hN.below hB1).more hB1.size
  clear hN
  have hOH := Lib.hid hO
  clear hO
  go_wp2_with fail
  go_loop [27] (fun i => ∃ k : Nat, k ≤ c ∧ i = .int .i64 k ∧ ∀ x, x < k → 0 ≤ vat cv x ∧ vat cv x ≤ (own l (x : Int) l.length : Int)) (fun i => c - (intOf i).toNat)
  case atStart => exact ⟨0, Nat.zero_le _, rfl, fun x hx => by omega⟩
  case round =>
    obtain ⟨k, hk, rfl, hok⟩ := hrel
    have hokH := Lib.hid hok
    clear hok
    by_cases hlt : k < c
    · obtain ⟨b, off, rfl, hb, hcs⟩ := hN1 (by omega)
      have x1 := hcs k (by omega)
      rw [← vat_get cv (by omega)] at x1
      clear hcs
      have hkI : (k : Int) < (c : Int) := by omega
      obtain ⟨A2, cap2, s1, _⟩ := hOH.out.slot k hlt
      have ho := own_le l (k : Int) l.length
      by_cases h1 : vat cv k < 0
      · have hno : Hid (¬ Ranged l c (vat cv)) := fun h => by have := (h k hlt).1; omega
        generalize vat cv k = u at *
        generalize own l (k : Int) l.length = a at *
        go_wp2_with fail
        go_ret2
        exact .inr ⟨hno.out, rfl, hB1⟩
      · by_cases h2 : (own l (k : Int) l.length : Int) < vat cv k
        · have hno : Hid (¬ Ranged l c (vat cv)) := fun h => by have := (h k hlt).2; omega
          generalize vat cv k = u at *
          generalize own l (k : Int) l.length = a at *
          go_wp2_with fail
          go_ret2
          exact .inr ⟨hno.out, rfl, hB1⟩
        · have hokn : Hid (∀ x, x < k + 1 → 0 ≤ vat cv x ∧ vat cv x ≤ (own l (x : Int) l.length : Int)) := fun x hx => by
            by_cases e : x = k
            · rw [e]; omega
            · exact hokH.out x (by omega)
          generalize vat cv k = u at *
          generalize own l (k : Int) l.length = a at *
          go_wp2_with fail
          go_round
          case rel => exact ⟨k + 1, by omega, by go_num, hokn.out⟩
          case measure => simp [intOf]; omega
    · have hkl : k = c := by omega
      go_wp2_with fail
      go_ret2
      exact .inl ⟨fun p hp => hokH.out p (by omega), T, rfl, hOH.out, hB1⟩

/-- A cut that is none: its code. -/
theorem ccheck_bad (A Ac : Option Addr) (cap capc : Nat) (l : List Ev) (n : Int) (cv : List Int) (w : World) (hE : Evs w w.heap.size A l) (hF : Fits l) (hl : l.length ≤ maxLen) (hN : Nums w w.heap.size Ac cv) (h0 : ¬ cutC n l cv = 0) :
    Calls Try.prog 26 #[.int .i64 n, .slice A l.length cap, .slice Ac cv.length capc] w fun e w' => e = .returned (.tuple #[.slice none 0 0, .int .i64 (cutC n l cv)]) ∧ Below w.heap.size w w' := by
  by_cases h1 : checkCode n l = 0
  · have hn := (check_small h1).1
    obtain ⟨c, rfl⟩ := Int.eq_ofNat_of_zero_le (show 0 ≤ n by omega)
    by_cases h2 : (cv.length : Int) = (c : Int)
    · have h3 : cv.length = c := by omega
      refine (ccheck_ok A Ac cap capc l c cv w hE hF hN h1 h3).mono ?_
      intro e w' h
      rcases h with ⟨hr, _⟩ | ⟨hr, rfl, hB⟩
      · exact absurd (cutC_ok.2 ⟨h1, h2, by rw [h3]; exact hr⟩) h0
      · refine ⟨?_, hB⟩
        have : cutC (c : Int) l cv = 4 := by
          unfold cutC
          rw [if_neg (by simp [h1]), if_neg (by simp; omega), if_neg (by rw [rangedB_iff, h3]; exact hr)]
        rw [this]
    · have : cutC (c : Int) l cv = 3 := by
        unfold cutC
        rw [if_neg (by simp [h1]), if_pos h2]
      rw [this]
      exact ccheck_len A Ac cap capc l c cv w hE hF h1 h2
  · have : cutC n l cv = checkCode n l := by
      unfold cutC
      rw [if_pos h1]
    rw [this]
    exact ccheck_no A Ac cap capc l n cv w hE hF hl h1

theorem ccheck_good (A Ac : Option Addr) (cap capc : Nat) (l : List Ev) (c : Nat) (cv : List Int) (w : World) (hE : Evs w w.heap.size A l) (hF : Fits l) (hN : Nums w w.heap.size Ac cv) (h0 : cutC (c : Int) l cv = 0) :
    Calls Try.prog 26 #[.int .i64 (c : Int), .slice A l.length cap, .slice Ac cv.length capc] w (SplRes l c w) := by
  obtain ⟨h1, h2, h3⟩ := cutC_ok.1 h0
  have h4 : cv.length = c := by omega
  refine (ccheck_ok A Ac cap capc l c cv w hE hF hN h1 h4).mono ?_
  intro e w' h
  rcases h with ⟨_, h⟩ | ⟨hr, _⟩
  · exact h
  · exact absurd (by rw [← h4]; exact h3) hr

set_option maxHeartbeats 1000000 in
theorem is_bad (A Ac : Option Addr) (cap capc : Nat) (l : List Ev) (n : Int) (cv : List Int) (w : World) (hE : Evs w w.heap.size A l) (hF : Fits l) (hl : l.length ≤ maxLen) (hN : Nums w w.heap.size Ac cv) (h0 : ¬ cutC n l cv = 0) :
    Calls Try.prog 11 #[.int .i64 n, .slice A l.length cap, .slice Ac cv.length capc] w fun e w' => e = .returned (.tuple #[.bool false, .int .i64 (cutC n l cv)]) ∧ Below w.heap.size w w' := by
  have hb0 : (cutC n l cv != 0) = true := by simp [h0]
  have h0H := Lib.hid h0
  clear h0
  go_enter Try.func11, Try.ntmps11
  go_wp2_with fail
  refine (ccheck_bad A Ac cap capc l n cv _ hE hF hl hN h0H.out).mono ?_
  rintro e w1 ⟨rfl, hB1⟩
  go_wp2_with fail
  go_ret2
  exact ⟨rfl, hB1⟩

theorem whole_lastOk {c : Nat} {l : List Ev} {cv : List Int} (h0 : cutC (c : Int) l cv = 0) : WholeC l (vat cv) ↔ LastOk l c (vat cv) c := by
  obtain ⟨h1, h2, h3⟩ := cutC_ok.1 h0
  have h4 : cv.length = c := by omega
  rw [h4] at h3
  exact whole_last (check_good.1 h1).2 h3

set_option maxHeartbeats 1000000 in
theorem is_ok (A Ac : Option Addr) (cap capc : Nat) (l : List Ev) (c : Nat) (cv : List Int) (w : World) (hE : Evs w w.heap.size A l) (hF : Fits l) (hN : Nums w w.heap.size Ac cv) (h0 : cutC (c : Int) l cv = 0) (C : Bool) (hC : Hid (C = true ↔ WholeC l (vat cv))) :
    Calls Try.prog 11 #[.int .i64 (c : Int), .slice A l.length cap, .slice Ac cv.length capc] w fun e w' => e = .returned (.tuple #[.bool C, .int .i64 0]) ∧ Below w.heap.size w w' := by
  obtain ⟨h1, h2, h3⟩ := cutC_ok.1 h0
  have h4 : cv.length = c := by omega
  rw [h4] at h3
  have hc6 := (check_small h1).2.1
  have h30 := (check_small h1).2.2
  have hC2 : Hid (C = true ↔ LastOk l c (vat cv) c) := hC.out.trans (whole_lastOk h0)
  have h0H := Lib.hid h0
  have h3H := Lib.hid h3
  have h4H := Lib.hid h4
  clear h0 h1 h2 h3 hC h4
  go_enter Try.func11, Try.ntmps11
  go_wp2_with fail
  refine (ccheck_good A Ac cap capc l c cv _ hE hF hN h0H.out).mono ?_
  rintro e w1 ⟨T, rfl, hO, hB1⟩
  have hN1 := (hN.below hB1).more hB1.size
  go_wp2_with fail
  refine (consistent_any Ac capc l c T cv w1 hO hN1 h4H.out (by omega) h30 h3H.out C hC2).mono ?_
  rintro e w2 ⟨rfl, rfl⟩
  go_wp2_with fail
  go_ret2
  exact ⟨rfl, hB1⟩

#print axioms is_ok
end Go.Proofs.Ytpofmhlmaejmoaa
