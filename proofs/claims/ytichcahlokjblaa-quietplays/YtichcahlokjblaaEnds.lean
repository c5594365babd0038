/-
  The contract of beaconryref.ends.
-/
import Derived.Test.YtichcahlokjblaaMov
import Derived.Test.YtichcahlokjblaaRows
import Derived.Test.YtichcahlokjblaaRowW
import Derived.KernelRfl
namespace Go.Proofs.Ytichcahlokjblaa
open Go.RowKit Go.Maps

set_option maxHeartbeats 1000000 in
theorem ends_any (w : World) (n : Nat) (m : Mv) (two C : Bool) (hC : C = true ↔ ((0 ≤ m.f ∧ m.f < n) ∧ (two = true → (0 ≤ m.t ∧ m.t < n) ∧ m.t ≠ m.f))) :
    Calls Try.prog 19 #[.int .i64 (n : Int), .agg #[.int .i64 m.k, .int .i64 m.f, .int .i64 m.t, .int .i64 m.v], .bool two] w fun e w' => e = .returned (.bool C) ∧ Below w.heap.size w w' := by
  have hB1 := (Below.refl w.heap.size w).alloc (Nat.le_refl _) (.cells #[.int .i64 m.k, .int .i64 m.f, .int .i64 m.t, .int .i64 m.v] 39)
  obtain ⟨k, f, t, v⟩ := m
  simp only at *
  have hCH := Lib.hid hC
  clear hC
  have hfalse : Hid (¬ ((0 ≤ f ∧ f < n) ∧ (two = true → (0 ≤ t ∧ t < n) ∧ t ≠ f)) → C = false) := fun h => by
    cases C with
    | false => rfl
    | true => exact absurd (hCH.out.1 rfl) h
  by_cases h1 : f < 0
  · obtain rfl := hfalse.out (fun h => by omega)
    clear hCH hfalse
    go_enter Try.func19, Try.ntmps19
    go_wp2_with fail
    go_ret
    exact ⟨rfl, hB1⟩
  by_cases h2 : (n : Int) ≤ f
  · obtain rfl := hfalse.out (fun h => by omega)
    clear hCH hfalse
    go_enter Try.func19, Try.ntmps19
    go_wp2_with fail
    go_ret
    exact ⟨rfl, hB1⟩
  cases two with
  | false =>
    obtain rfl : C = true := hCH.out.2 ⟨⟨by omega, by omega⟩, fun h => absurd h (by decide)⟩
    clear hCH hfalse
    go_enter Try.func19, Try.ntmps19
    go_wp2_with fail
    go_ret
    exact ⟨rfl, hB1⟩
  | true =>
    by_cases h3 : t < 0
    · obtain rfl := hfalse.out (fun h => by have := h.2 rfl; omega)
      clear hCH hfalse
      go_enter Try.func19, Try.ntmps19
      go_wp2_with fail
      go_ret
      exact ⟨rfl, hB1⟩
    by_cases h4 : (n : Int) ≤ t
    · obtain rfl := hfalse.out (fun h => by have := h.2 rfl; omega)
      clear hCH hfalse
      go_enter Try.func19, Try.ntmps19
      go_wp2_with fail
      go_ret
      exact ⟨rfl, hB1⟩
    by_cases h5 : t = f
    · obtain rfl := hfalse.out (fun h => (h.2 rfl).2 h5)
      have e5 : (t != f) = false := by simp [h5]
      clear hCH hfalse h5
      go_enter Try.func19, Try.ntmps19
      go_wp2_with fail
      go_ret
      exact ⟨rfl, hB1⟩
    · obtain rfl : C = true := hCH.out.2 ⟨⟨by omega, by omega⟩, fun _ => ⟨⟨by omega, by omega⟩, h5⟩⟩
      have e5 : (t != f) = true := by simp [h5]
      clear hCH hfalse h5
      go_enter Try.func19, Try.ntmps19
      go_wp2_with fail
      go_ret
      exact ⟨rfl, hB1⟩


#print axioms ends_any
end Go.Proofs.Ytichcahlokjblaa
