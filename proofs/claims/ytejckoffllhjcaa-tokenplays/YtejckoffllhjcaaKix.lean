/-
  The contracts of slices.Index, Contains, IndexFunc and ContainsFunc at []int, of token.outside and its closure.
-/
import Derived.Test.YtejckoffllhjcaaKsy
import Derived.BigQuiet
import Derived.Deep.QuietTactic
import Derived.Laws.EntriesVeiled
namespace Go.Proofs.Ytejckoffllhjcaa
open Go.RowKit Go.Maps
set_option linter.unusedVariables false

theorem QueT.nums {te : TypeId} {w : World} {B : Nat} {v : Value} {xs : List Int} (h : QueT te w B v xs) : ∃ A cap, v = .slice A xs.length cap ∧ xs.length ≤ cap ∧ cap ≤ maxLen ∧ Nums w w.heap.size A xs := by
  rcases h with ⟨rfl, rfl⟩ | ⟨g, off, cap, cur, rfl, h1, h2, h3, h4, h5, h6⟩
  · exact ⟨none, 0, rfl, Nat.le_refl _, Nat.zero_le _, fun h0 => absurd h0 (by simp)⟩
  · refine ⟨_, cap, rfl, h3, h4, fun h0 => ⟨g, off, rfl, ?_, fun i hi => ?_⟩⟩
    · rcases Nat.lt_or_ge g w.heap.size with h | h
      · exact h
      · rw [Array.getElem?_eq_none h] at h2; cases h2
    · rw [cell_of_row w g (off + i) cur te (0, 0) h2]
      exact h6 i hi

set_option maxHeartbeats 400000 in
theorem indexK_any (A : Option Addr) (cap : Nat) (o : List Int) (x : Int) (w : World) (hE : Nums w w.heap.size A o) (hl : o.length ≤ 1000) :
    Calls Try.prog 43 #[.slice A o.length cap, .int .i64 x] w fun e w' => ∃ k : Int, e = .returned (.int .i64 k) ∧ (0 ≤ k ↔ x ∈ o) ∧ w = w' := by
  go_enter Try.func43, Try.ntmps43
  go_wp2
  go_loop [8] (fun i => ∃ k : Nat, k ≤ o.length ∧ i = .int .i64 k ∧ Hid (∀ j, (h : j < o.length) → j < k → o[j] ≠ x)) (fun i => o.length - (intOf i).toNat)
  case atStart => exact ⟨0, Nat.zero_le _, rfl, fun _ _ h => absurd h (Nat.not_lt_zero _)⟩
  case round =>
    obtain ⟨k, hk, rfl, hr⟩ := hrel
    by_cases hlt : k < o.length
    · obtain ⟨b, off, rfl, hb, hc⟩ := hE (by omega)
      have c0 := hc k hlt
      clear hc
      by_cases he : o[k] = x
      · have hf : Hid (x ∈ o) := by unfold Hid; rw [← he]; exact List.getElem_mem hlt
        generalize o[k] = y at *
        have hb1 : (x == y) = true := by simp [he]
        clear he
        go_wp2
        go_ret
        exact ⟨k, rfl, ⟨fun _ => hf.out, fun _ => by omega⟩, rfl⟩
      · have hn : Hid (∀ j, (h : j < o.length) → j < k + 1 → o[j] ≠ x) := fun j h hj => by
          by_cases e : j = k
          · subst e; exact he
          · exact hr.out j h (by omega)
        generalize o[k] = y at *
        have hb1 : (x == y) = false := by simp; exact fun h => he h.symm
        clear he
        go_wp2
        go_round
        case rel => exact ⟨k + 1, by omega, by go_num, hn⟩
        case measure => simp [intOf]; omega
    · have hf : Hid (¬ x ∈ o) := by
        unfold Hid
        intro h
        obtain ⟨j, hj, e⟩ := List.getElem_of_mem h
        exact hr.out j hj (by omega) e
      go_wp2
      go_ret
      exact ⟨-1, rfl, ⟨fun h => absurd h (by omega), fun h => absurd h hf.out⟩, rfl⟩

set_option maxHeartbeats 400000 in
theorem containsK_any (A : Option Addr) (cap : Nat) (o : List Int) (x : Int) (w : World) (hE : Nums w w.heap.size A o) (hl : o.length ≤ 1000) (C : Bool) (hC : C = true ↔ x ∈ o) :
    Calls Try.prog 37 #[.slice A o.length cap, .int .i64 x] w fun e w' => e = .returned (.bool C) ∧ w = w' := by
  have hCH := Lib.hid hC
  have hEH := Lib.hid hE
  clear hC hE
  go_enter Try.func37, Try.ntmps37
  go_wp2_with fail
  refine (indexK_any A cap o x w hEH.out hl).mono ?_
  rintro e w1 ⟨k, rfl, hk, rfl⟩
  have hkC : Hid (C = decide (0 ≤ k)) := by
    unfold Hid
    rw [Bool.eq_iff_iff, hCH.out, ← hk]
    simp
  clear hk hCH
  go_wp2_with fail
  go_ret
  exact ⟨by rw [hkC.out]; rfl, rfl⟩

/-- Whether a number is none of the n. -/
def outK (n : Nat) (x : Int) : Bool := !(decide (0 ≤ x) && decide (x < n))
theorem outK_iff {n : Nat} {x : Int} : outK n x = true ↔ ¬ (0 ≤ x ∧ x < n) := by
  unfold outK
  rw [Bool.not_eq_true', ← Bool.not_eq_true, Bool.and_eq_true, decide_eq_true_iff, decide_eq_true_iff]
def outV (b : Nat) : Value := .func (.func 39) #[] #[.pointer (some ⟨b, 0, none⟩)]

set_option maxHeartbeats 400000 in
theorem outside_any (n : Nat) (w : World) : Calls Try.prog 32 #[.int .i64 (n : Int)] w fun e w' => e = .returned (outV w.heap.size) ∧ w.alloc (.cells #[.int .i64 (n : Int)] 3) = w' := by
  go_enter Try.func32, Try.ntmps32
  go_wp2_with fail
  go_ret
  exact ⟨rfl, rfl⟩
set_option maxHeartbeats 400000 in
theorem outcl_any (n b : Nat) (x : Int) (w : World) (hn : n ≤ 1000) (hR : Row w b 3 [.int .i64 (n : Int)]) : Calls Try.prog 39 #[.int .i64 x, .pointer (some ⟨b, 0, none⟩)] w fun e w' => e = .returned (.bool (outK n x)) ∧ w = w' := by
  have c0 := hR.cell (i := 0) (by simp)
  simp only [List.getElem_cons_zero] at c0
  clear hR
  by_cases h1 : x < 0
  · have hC : Hid (outK n x = true) := outK_iff.2 (by omega)
    go_enter Try.func39, Try.ntmps39
    go_wp2_with fail
    go_ret
    exact ⟨by rw [hC.out]; rfl, rfl⟩
  · by_cases h2 : x < n
    · have hC : Hid (outK n x = false) := by
        unfold Hid
        rw [← Bool.not_eq_true, outK_iff]; omega
      have h2b : ¬ (n : Int) ≤ x := by omega
      go_enter Try.func39, Try.ntmps39
      go_wp2_with fail
      go_ret
      exact ⟨by rw [hC.out]; rfl, rfl⟩
    · have hC : Hid (outK n x = true) := outK_iff.2 (by omega)
      have h2b : (n : Int) ≤ x := by omega
      go_enter Try.func39, Try.ntmps39
      go_wp2_with fail
      go_ret
      exact ⟨by rw [hC.out]; rfl, rfl⟩

set_option maxHeartbeats 1600000 in
theorem indexFuncK_any (n b : Nat) (w : World) (hn : n ≤ 1000) (hR : Row w b 3 [.int .i64 (n : Int)]) (A : Option Addr) (cap : Nat) (q : List Int) (hq : Nums w w.heap.size A q) (hql : q.length ≤ 1000) :
    Calls Try.prog 38 #[.slice A q.length cap, outV b] w fun e w' => ∃ r, e = .returned (.int .i64 r) ∧ (0 ≤ r ↔ ∃ x ∈ q, outK n x = true) ∧ w = w' := by
  have hcl : Hid (∀ x, Calls Try.prog 39 #[.int .i64 x, .pointer (some ⟨b, 0, none⟩)] w fun e w' => e = .returned (.bool (outK n x)) ∧ w = w') := fun x => outcl_any n b x w hn hR
  generalize outK n = f at *
  have hqH := Lib.hid hq
  clear hR hq
  unfold outV
  go_enter Try.func38, Try.ntmps38
  go_wp2_with fail
  go_loop [8] (fun t => ∃ j : Nat, j ≤ q.length ∧ t = .int .i64 j ∧ Hid (∀ a, (ha : a < q.length) → a < j → f q[a] = false)) (fun t => q.length - (intOf t).toNat)
  case atStart => exact ⟨0, Nat.zero_le _, rfl, fun _ _ h => absurd h (Nat.not_lt_zero _)⟩
  case round =>
    obtain ⟨j, hj, rfl, hr⟩ := hrel
    by_cases hlt : j < q.length
    · obtain ⟨b2, off, rfl, hb, hc⟩ := hqH.out (by omega)
      have c0 := hc j hlt
      clear hc
      have hcc := Lib.hid (hcl.out q[j])
      have hmem : Hid (q[j] ∈ q) := List.getElem_mem hlt
      obtain ⟨R, hR⟩ : ∃ R, Hid (f q[j] = R) := ⟨f q[j], (rfl : f q[j] = f q[j])⟩
      rw [hR.out] at hcc
      have hn2 : Hid (R = false → ∀ a, (ha : a < q.length) → a < j + 1 → f q[a] = false) := fun e0 a ha h => by
        by_cases e : a = j
        · subst e; exact hR.out.trans e0
        · exact hr.out a ha (by omega)
      generalize q[j] = x at *
      have hjI : (j : Int) < (q.length : Int) := by omega
      cases R with
      | true =>
        clear hn2
        go_wp2_with fail
        refine hcc.out.mono ?_
        rintro e w3 ⟨rfl, rfl⟩
        go_wp2_with fail
        go_ret
        exact ⟨j, rfl, ⟨fun _ => ⟨x, hmem.out, hR.out⟩, fun _ => by omega⟩, rfl⟩
      | false =>
        have hn3 := Lib.hid (hn2.out rfl)
        clear hn2
        go_wp2_with fail
        refine hcc.out.mono ?_
        rintro e w3 ⟨rfl, rfl⟩
        go_wp2_with fail
        go_round
        case rel => exact ⟨j + 1, by omega, by go_num, hn3⟩
        case measure => simp [intOf]; omega
    · have hjl : j = q.length := by omega
      subst hjl
      go_wp2_with fail
      go_ret
      exact ⟨-1, rfl, ⟨fun h => absurd h (by omega), fun ⟨x, hx, hfx⟩ => by
        obtain ⟨a, ha, e⟩ := List.getElem_of_mem hx
        rw [← e, hr.out a ha ha] at hfx
        cases hfx⟩, rfl⟩
set_option maxHeartbeats 400000 in
theorem containsFuncK_any (n b : Nat) (w : World) (hn : n ≤ 1000) (hR : Row w b 3 [.int .i64 (n : Int)]) (A : Option Addr) (cap : Nat) (q : List Int) (hq : Nums w w.heap.size A q) (hql : q.length ≤ 1000) (C : Bool) (hC : C = true ↔ ∃ x ∈ q, outK n x = true) :
    Calls Try.prog 31 #[.slice A q.length cap, outV b] w fun e w' => e = .returned (.bool C) ∧ w = w' := by
  have hc := Lib.hid (indexFuncK_any n b w hn hR A cap q hq hql)
  have hCH := Lib.hid hC
  clear hR hq hC
  unfold outV at hc
  unfold outV
  go_enter Try.func31, Try.ntmps31
  go_wp2_with fail
  refine hc.out.mono ?_
  rintro e w1 ⟨k, rfl, hk, rfl⟩
  have hkC : Hid (C = decide (0 ≤ k)) := by
    unfold Hid
    rw [Bool.eq_iff_iff, hCH.out, ← hk]
    simp
  clear hk hCH
  go_wp2_with fail
  go_ret
  exact ⟨by rw [hkC.out]; rfl, rfl⟩

#print axioms containsK_any
#print axioms containsFuncK_any
end Go.Proofs.Ytejckoffllhjcaa
