/-
  The contracts of beaconryref.Has (at slices up to a thousand), beaconrykeep.at (at slices without repetition), beaconryref.Once.
-/
import Derived.Test.YtkchccaeopdemaaRows
import Derived.Test.YtkchccaeopdemaaWords
import Derived.KernelRfl
namespace Go.Proofs.Ytkchccaeopdemaa
open Go.RowKit Go.Maps

set_option maxHeartbeats 400000 in
theorem hasL_any (A : Option Addr) (cap : Nat) (o : List Int) (x : Int) (w : World) (hE : Nums w w.heap.size A o) (hl : o.length ≤ 1000) (C : Bool) (hC : Hid (C = true ↔ x ∈ o)) :
    Calls Try.prog 14 #[.slice A o.length cap, .int .i64 x] w fun e w' => e = .returned (.bool C) ∧ w = w' := by
  go_enter Try.func14, Try.ntmps14
  go_wp2
  go_loop [9] (fun i => ∃ k : Nat, k ≤ o.length ∧ i = .int .i64 k ∧ Hid (∀ j, (h : j < o.length) → j < k → o[j] ≠ x)) (fun i => o.length - (intOf i).toNat)
  case atStart => exact ⟨0, Nat.zero_le _, rfl, fun _ _ h => absurd h (Nat.not_lt_zero _)⟩
  case round =>
    obtain ⟨k, hk, rfl, hr⟩ := hrel
    by_cases hlt : k < o.length
    · obtain ⟨b, off, rfl, hb, hc⟩ := hE (by omega)
      have c0 := hc k hlt
      clear hc
      by_cases he : o[k] = x
      · have hf : Hid (C = true) := hC.out.2 (by rw [← he]; exact List.getElem_mem hlt)
        generalize o[k] = y at *
        have hb1 : (x == y) = true := by simp [he]
        clear he
        go_wp2
        go_ret
        exact ⟨by rw [hf.out]; rfl, rfl⟩
      · have hn : Hid (∀ j, (h : j < o.length) → j < k + 1 → o[j] ≠ x) := fun j h hj => by
          by_cases e : j = k
          · subst e; exact he
          · exact hr.out j h (by omega)
        generalize o[k] = y at *
        have hb1 : (x == y) = false := by simp; exact fun h => he h.symm
        clear he
        go_wp2
        go_round
        case rel => exact ⟨k + 1, by omega, by go_num, hn⟩
        case measure => simp [intOf]; omega
    · have hf : Hid (C = false) := by
        unfold Hid
        rw [← Bool.not_eq_true, hC.out]
        intro h
        obtain ⟨j, hj, e⟩ := List.getElem_of_mem h
        exact hr.out j hj (by omega) e
      go_wp2
      go_ret
      exact ⟨by rw [hf.out]; rfl, rfl⟩

set_option maxHeartbeats 400000 in
theorem at_any (A : Option Addr) (cap : Nat) (o : List Int) (x : Int) (w : World) (hE : Nums w w.heap.size A o) (hl : o.length ≤ 1000) (hN : o.Nodup) (q : Nat) (hq : o[q]? = some x) :
    Calls Try.prog 15 #[.slice A o.length cap, .int .i64 x] w fun e w' => e = .returned (.int .i64 (q : Int)) ∧ w = w' := by
  have hqn : Hid (∀ k, (h : k < o.length) → (o[k] = x ↔ k = q)) := fun k h => by
    obtain ⟨hq1, hq2⟩ := List.getElem?_eq_some_iff.1 hq
    constructor
    · intro e
      rcases Nat.lt_trichotomy k q with h1 | h1 | h1
      · exact absurd (e.trans hq2.symm) (List.pairwise_iff_getElem.1 hN k q h hq1 h1)
      · exact h1
      · exact absurd (hq2.trans e.symm) (List.pairwise_iff_getElem.1 hN q k hq1 h h1)
    · intro e
      subst e
      exact hq2
  have hql : q < o.length := (List.getElem?_eq_some_iff.1 hq).1
  clear hN hq
  go_enter Try.func15, Try.ntmps15
  go_wp2
  go_loop [9] (fun i => ∃ k : Nat, k ≤ q ∧ i = .int .i64 k) (fun i => o.length - (intOf i).toNat)
  case atStart => exact ⟨0, Nat.zero_le _, rfl⟩
  case round =>
    obtain ⟨k, hk, rfl⟩ := hrel
    have hlt : k < o.length := by omega
    obtain ⟨b, off, rfl, hb, hc⟩ := hE (by omega)
    have c0 := hc k hlt
    clear hc
    have hi := hqn.out k hlt
    generalize o[k] = y at *
    by_cases he : k = q
    · have hb1 : (x == y) = true := by simp [hi.2 he]
      have heH := Lib.hid he
      clear he hi
      go_wp2
      go_ret
      exact ⟨by rw [heH.out]; rfl, rfl⟩
    · have hb1 : (x == y) = false := by simp; exact fun h => he (hi.1 h.symm)
      clear hi
      go_wp2
      go_round
      case rel => exact ⟨k + 1, by omega, by go_num⟩
      case measure => simp [intOf]; omega

set_option maxHeartbeats 400000 in
theorem onceL_yes (A : Option Addr) (cap : Nat) (o : List Int) (w : World) (hE : Nums w w.heap.size A o) (hl : o.length ≤ 1000) (hC : ∀ i : Nat, i < o.length → (i : Int) ∈ o) :
    Calls Try.prog 16 #[.int .i64 o.length, .slice A o.length cap] w fun e w' => e = .returned (.bool true) ∧ w = w' := by
  have hCH := Lib.hid hC
  have hEH := Lib.hid hE
  clear hC hE
  go_enter Try.func16, Try.ntmps16
  go_wp2_with fail
  go_loop [5] (fun i => ∃ k : Nat, k ≤ o.length ∧ i = .int .i64 k) (fun i => o.length - (intOf i).toNat)
  case atStart => exact ⟨0, Nat.zero_le _, rfl⟩
  case round =>
    obtain ⟨k, hk, rfl⟩ := hrel
    by_cases hlt : k < o.length
    · have hcc := Lib.hid (hasL_any A cap o (k : Int) w hEH.out hl true ⟨fun _ => hCH.out k hlt, fun _ => rfl⟩)
      go_wp2_with fail
      refine hcc.out.mono ?_
      rintro e w1 ⟨rfl, rfl⟩
      go_wp2_with fail
      go_round
      case rel => exact ⟨k + 1, by omega, by go_num⟩
      case measure => simp [intOf]; omega
    · have hkl : k = o.length := by omega
      subst hkl
      go_wp2_with fail
      go_ret
      exact ⟨rfl, rfl⟩

#print axioms hasL_any
#print axioms at_any
#print axioms onceL_yes
end Go.Proofs.Ytkchccaeopdemaa
