/-
  The contract of beaconrykeep.inside.
-/
import Derived.Test.YtieicimoolegoaaRows
import Derived.Test.YtieicimoolegoaaWords
import Derived.KernelRfl
namespace Go.Proofs.Ytieicimoolegoaa
open Go.RowKit Go.Maps

/-- Are numbers from 0 to below n? -/
def inB (n : Int) (l : List Int) : Bool := l.all fun x => decide (0 ≤ x ∧ x < n)

theorem inB_drop (n : Int) (l : List Int) {k : Nat} (h : k < l.length) : inB n (l.drop k) = (decide (0 ≤ l[k] ∧ l[k] < n) && inB n (l.drop (k + 1))) := by
  rw [List.drop_eq_getElem_cons h]; rfl

set_option maxHeartbeats 400000 in
theorem inside_any (A : Option Addr) (cap : Nat) (l : List Int) (n : Int) (w : World) (hE : Nums w w.heap.size A l) (hl : l.length ≤ 1000) (C : Bool) (hC : Hid (inB n l = C)) :
    Calls Try.prog 23 #[.int .i64 n, .slice A l.length cap] w fun e w' => e = .returned (.bool C) ∧ w = w' := by
  go_enter Try.func23, Try.ntmps23
  go_wp2
  go_loop [9] (fun i => ∃ k : Nat, k ≤ l.length ∧ i = .int .i64 k ∧ inB n (l.drop k) = C) (fun i => l.length - (intOf i).toNat)
  case atStart => exact ⟨0, Nat.zero_le _, rfl, by simpa using hC.out⟩
  case round =>
    obtain ⟨k, hk, rfl, hr⟩ := hrel
    by_cases hlt : k < l.length
    · obtain ⟨b, off, rfl, hb, hc⟩ := hE (by omega)
      have c0 := hc k hlt
      rw [inB_drop n l hlt] at hr
      have hrH := Lib.hid hr
      clear hc hr
      generalize l[k] = x at *
      by_cases h1 : x < 0
      · have hf : Hid (C = false) := by have := hrH.out; rw [decide_eq_false (by omega)] at this; exact this.symm
        go_wp2
        go_ret
        exact ⟨by rw [hf.out]; rfl, rfl⟩
      by_cases h2 : n ≤ x
      · have hf : Hid (C = false) := by have := hrH.out; rw [decide_eq_false (by omega)] at this; exact this.symm
        go_wp2
        go_ret
        exact ⟨by rw [hf.out]; rfl, rfl⟩
      · have hf : Hid (inB n (l.drop (k + 1)) = C) := by have := hrH.out; rw [decide_eq_true (by omega)] at this; exact this
        go_wp2
        go_round
        case rel => exact ⟨k + 1, by omega, by go_num, hf.out⟩
        case measure => simp [intOf]; omega
    · have hkl : k = l.length := by omega
      have hC0 : C = true := by rw [← hr, hkl]; simp [inB]
      go_wp2
      go_ret
      exact ⟨rfl, rfl⟩

theorem nums1 (w : World) (x : Int) (e : TypeId) : Nums (w.alloc (.cells #[.int .i64 x] e)) (w.alloc (.cells #[.int .i64 x] e)).heap.size (some ⟨w.heap.size, 0, none⟩) [x] := by
  intro _
  refine ⟨w.heap.size, 0, rfl, by simp, fun i hi => ?_⟩
  have : i = 0 := by simpa using hi
  subst this
  simp [World.cell?_alloc_new]
theorem nums2 (w : World) (x y : Int) (e : TypeId) : Nums (w.alloc (.cells #[.int .i64 x, .int .i64 y] e)) (w.alloc (.cells #[.int .i64 x, .int .i64 y] e)).heap.size (some ⟨w.heap.size, 0, none⟩) [x, y] := by
  intro _
  refine ⟨w.heap.size, 0, rfl, by simp, fun i hi => ?_⟩
  have : i = 0 ∨ i = 1 := by simp at hi; omega
  rcases this with rfl | rfl <;> simp [World.cell?_alloc_new]

#print axioms inside_any
end Go.Proofs.Ytieicimoolegoaa
