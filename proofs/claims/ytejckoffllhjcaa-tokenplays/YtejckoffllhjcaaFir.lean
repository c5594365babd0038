/-
  The contracts of beaconryref.First and beaconryref.ends.
-/
import Derived.Test.YtejckoffllhjcaaLtr
import Derived.Test.YtejckoffllhjcaaMov
namespace Go.Proofs.Ytejckoffllhjcaa
open Go.RowKit Go.Maps

def isLt (L : List Lt) (f t : Int) (k : Nat) : Prop := (lt_ L k).f = f ∧ (lt_ L k).t = t
def FirRel (w : World) (L : List Lt) (f t : Int) (k : Nat) (wr : World) : Prop := (∀ m, m < k → ¬ isLt L f t m) ∧ Below w.heap.size w wr
/-- The answer of First. -/
def FirstIs (L : List Lt) (f t : Int) (r : Int) : Prop := (r = -1 ∧ ∀ k, k < L.length → ¬ isLt L f t k) ∨ ∃ k : Nat, r = (k : Int) ∧ k < L.length ∧ isLt L f t k ∧ ∀ m, m < k → ¬ isLt L f t m
theorem firstIs_below (L : List Lt) (f t : Int) (N : Nat) : (∀ k, k < N → ¬ isLt L f t k) ∨ ∃ k, k < N ∧ isLt L f t k ∧ ∀ m, m < k → ¬ isLt L f t m := by
  induction N with
  | zero => exact .inl fun k hk => by omega
  | succ N ih =>
    rcases ih with h | ⟨k, h1, h2, h3⟩
    · by_cases hN : isLt L f t N
      · exact .inr ⟨N, by omega, hN, h⟩
      · refine .inl fun k hk => ?_
        by_cases e : k = N
        · subst e; exact hN
        · exact h k (by omega)
    · exact .inr ⟨k, by omega, h2, h3⟩
theorem firstIs_ex (L : List Lt) (f t : Int) : ∃ r, FirstIs L f t r := by
  rcases firstIs_below L f t L.length with h | ⟨k, h1, h2, h3⟩
  · exact ⟨-1, .inl ⟨rfl, h⟩⟩
  · exact ⟨_, .inr ⟨k, rfl, h1, h2, h3⟩⟩
theorem FirstIs.at_ {L : List Lt} {f t r : Int} (h : FirstIs L f t r) {k : Nat} (hk : k < L.length) (hi : isLt L f t k) (hb : ∀ m, m < k → ¬ isLt L f t m) : r = (k : Int) := by
  rcases h with ⟨_, h⟩ | ⟨k', rfl, h1, h2, h3⟩
  · exact absurd hi (h k hk)
  · rcases Nat.lt_trichotomy k k' with h | h | h
    · exact absurd hi (h3 k h)
    · rw [h]
    · exact absurd h2 (hb k' h)
theorem FirstIs.none_ {L : List Lt} {f t r : Int} (h : FirstIs L f t r) (hn : ∀ k, k < L.length → ¬ isLt L f t k) : r = -1 := by
  rcases h with ⟨h, _⟩ | ⟨k', rfl, h1, h2, h3⟩
  · exact h
  · exact absurd h2 (hn k' h1)

set_option maxHeartbeats 1000000 in
theorem first_any (A : Option Addr) (cap : Nat) (L : List Lt) (f t : Int) (w : World) (hA : LtsAt w A L) (hl : L.length ≤ 100000) (r : Int) (hr : FirstIs L f t r) :
    Calls Try.prog 24 #[.slice A L.length cap, .int .i64 f, .int .i64 t] w fun e w' => e = .returned (.int .i64 r) ∧ Below w.heap.size w w' := by
  have hrH := Lib.hid hr
  have hAH := Lib.hid hA
  clear hr hA
  go_enter Try.func24, Try.ntmps24
  go_wp2_with fail
  go_loopw [11] (fun t' wr => ∃ k : Nat, k ≤ L.length ∧ t' = .int .i64 k ∧ FirRel w L f t k wr) (fun t' _ => L.length - (intOf t').toNat)
  case atStart => exact ⟨0, Nat.zero_le _, rfl, fun m hm => absurd hm (by omega), Below.refl _ _⟩
  case round =>
    obtain ⟨k, hk, rfl, hno, hB⟩ := hrel
    have hnoH := Lib.hid hno
    clear hno
    by_cases hlt : k < L.length
    · have hkI : (k : Int) < (L.length : Int) := by omega
      obtain ⟨g, rfl, _, c0, c1, c2⟩ := (hAH.out.below hB) k hlt
      have hBa := hB.alloc hB.size (.cells #[.int .i64 (lt_ L k).f, .int .i64 (lt_ L k).t, .int .i64 (lt_ L k).v] 52)
      have hdef : Hid (isLt L f t k ↔ ((lt_ L k).f = f ∧ (lt_ L k).t = t)) := Iff.rfl
      generalize (lt_ L k).f = xf at *
      generalize (lt_ L k).t = xt at *
      generalize (lt_ L k).v = xv at *
      clear hB
      by_cases h1 : xf = f
      · have e1 : (xf == f) = true := by simp [h1]
        by_cases h2 : xt = t
        · have e2 : (xt == t) = true := by simp [h2]
          have hres : r = (k : Int) := hrH.out.at_ hlt (hdef.out.2 ⟨h1, h2⟩) hnoH.out
          subst hres
          clear h1 h2 hdef
          go_wp2_with fail
          go_ret
          exact ⟨rfl, hBa⟩
        · have e2 : (xt == t) = false := by simp [h2]
          have hno2 : Hid (∀ m, m < k + 1 → ¬ isLt L f t m) := fun m hm => by
            by_cases e : m = k
            · subst e; exact fun h => h2 (hdef.out.1 h).2
            · exact hnoH.out m (by omega)
          clear h1 h2 hdef
          go_wp2_with fail
          go_roundw
          case rel => exact ⟨k + 1, by omega, by go_num, hno2.out, hBa⟩
          case measure => simp [intOf]; omega
      · have e1 : (xf == f) = false := by simp [h1]
        have hno2 : Hid (∀ m, m < k + 1 → ¬ isLt L f t m) := fun m hm => by
          by_cases e : m = k
          · subst e; exact fun h => h1 (hdef.out.1 h).1
          · exact hnoH.out m (by omega)
        clear h1 hdef
        go_wp2_with fail
        go_roundw
        case rel => exact ⟨k + 1, by omega, by go_num, hno2.out, hBa⟩
        case measure => simp [intOf]; omega
    · have hkl : k = L.length := by omega
      subst hkl
      have hres : r = -1 := hrH.out.none_ hnoH.out
      subst hres
      go_wp2_with fail
      go_ret
      exact ⟨rfl, hB⟩

set_option maxHeartbeats 1000000 in
theorem ends_any (w : World) (n : Nat) (m : Mv) (two C : Bool) (hC : C = true ↔ ((0 ≤ m.f ∧ m.f < n) ∧ (two = true → (0 ≤ m.t ∧ m.t < n) ∧ m.t ≠ m.f))) :
    Calls Try.prog 25 #[.int .i64 (n : Int), .agg #[.int .i64 m.k, .int .i64 m.f, .int .i64 m.t, .int .i64 m.v], .bool two] w fun e w' => e = .returned (.bool C) ∧ Below w.heap.size w w' := by
  have hB1 := (Below.refl w.heap.size w).alloc (Nat.le_refl _) (.cells #[.int .i64 m.k, .int .i64 m.f, .int .i64 m.t, .int .i64 m.v] 40)
  obtain ⟨k, f, t, v⟩ := m
  simp only at *
  have hCH := Lib.hid hC
  clear hC
  have hfalse : Hid (¬ ((0 ≤ f ∧ f < n) ∧ (two = true → (0 ≤ t ∧ t < n) ∧ t ≠ f)) → C = false) := fun h => by
    cases C with
    | false => rfl
    | true => exact absurd (hCH.out.1 rfl) h
  by_cases h1 : f < 0
  · obtain rfl := hfalse.out (fun h => by omega)
    clear hCH hfalse
    go_enter Try.func25, Try.ntmps25
    go_wp2_with fail
    go_ret
    exact ⟨rfl, hB1⟩
  by_cases h2 : (n : Int) ≤ f
  · obtain rfl := hfalse.out (fun h => by omega)
    clear hCH hfalse
    go_enter Try.func25, Try.ntmps25
    go_wp2_with fail
    go_ret
    exact ⟨rfl, hB1⟩
  cases two with
  | false =>
    obtain rfl : C = true := hCH.out.2 ⟨⟨by omega, by omega⟩, fun h => absurd h (by decide)⟩
    clear hCH hfalse
    go_enter Try.func25, Try.ntmps25
    go_wp2_with fail
    go_ret
    exact ⟨rfl, hB1⟩
  | true =>
    by_cases h3 : t < 0
    · obtain rfl := hfalse.out (fun h => by have := h.2 rfl; omega)
      clear hCH hfalse
      go_enter Try.func25, Try.ntmps25
      go_wp2_with fail
      go_ret
      exact ⟨rfl, hB1⟩
    by_cases h4 : (n : Int) ≤ t
    · obtain rfl := hfalse.out (fun h => by have := h.2 rfl; omega)
      clear hCH hfalse
      go_enter Try.func25, Try.ntmps25
      go_wp2_with fail
      go_ret
      exact ⟨rfl, hB1⟩
    by_cases h5 : t = f
    · obtain rfl := hfalse.out (fun h => (h.2 rfl).2 h5)
      have e5 : (t != f) = false := by simp [h5]
      clear hCH hfalse h5
      go_enter Try.func25, Try.ntmps25
      go_wp2_with fail
      go_ret
      exact ⟨rfl, hB1⟩
    · obtain rfl : C = true := hCH.out.2 ⟨⟨by omega, by omega⟩, fun _ => ⟨⟨by omega, by omega⟩, h5⟩⟩
      have e5 : (t != f) = true := by simp [h5]
      clear hCH hfalse h5
      go_enter Try.func25, Try.ntmps25
      go_wp2_with fail
      go_ret
      exact ⟨rfl, hB1⟩

#print axioms first_any
#print axioms ends_any
end Go.Proofs.Ytejckoffllhjcaa
