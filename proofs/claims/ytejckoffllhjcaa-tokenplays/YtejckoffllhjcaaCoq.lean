/-
  Words for a row of codes; the contracts of beaconryref.PlayCheck, beaconryref.Codes (at slices that read alike): Cod for seats without beaconryref.Ints.
-/
import Derived.Test.YtejckoffllhjcaaIntW
import Derived.BigQuiet
import Derived.Deep.QuietTactic
namespace Go.Proofs.Ytejckoffllhjcaa
open Go.RowKit Go.Maps

def IntRel (w wr : World) : Prop := Below w.heap.size w wr

theorem infoErr : (Try.prog.info? 28).map (fun i => (i.zero, i.size, i.bytes)) = some (some (.int .i64 0), 1, 8) := by kernel_rfl
def CodRow (w : World) (g len : Nat) (c : Nat → Int) : Prop := Row w g 28 (intRow c len)
section
variable {w w' : World} {g len : Nat} {c c' : Nat → Int}
theorem CodRow.at_ (h : CodRow w g len c) {j : Nat} (hj : j < len) : w.cell? ⟨g, j, none⟩ = some (.int .i64 (c j)) := by
  rw [Row.cell h (by rw [intRow_len]; exact hj), intRow_get c hj]
theorem CodRow.put (h : CodRow w g len c) (j : Nat) (v : Int) : CodRow (w.setCell ⟨g, j, none⟩ (.int .i64 v)) g len (updI c j v) := by
  have := Row.set h j (.int .i64 v)
  rw [intRow_set] at this
  exact this
theorem CodRow.congr (h : CodRow w g len c) (e : ∀ j, j < len → c j = c' j) : CodRow w g len c' := by
  unfold CodRow at *
  rw [← intRow_congr e]; exact h
end

set_option maxHeartbeats 800000 in
theorem playcheck_any (w : World) (n m : Int) (c : Int) (hc : c = if 1 ≤ n ∧ n ≤ 6 ∧ m ≤ 60 then 0 else 1) :
    Calls Try.prog 8 #[.int .i64 n, .int .i64 m] w fun e w' => e = .returned (.int .i64 c) ∧ w' = w := by
  by_cases h1 : n < 1
  · rw [if_neg (by omega)] at hc
    subst hc
    go_enter Try.func8, Try.ntmps8
    go_wp2_with fail
    go_ret
    exact ⟨rfl, rfl⟩
  by_cases h2 : 6 < n
  · rw [if_neg (by omega)] at hc
    subst hc
    go_enter Try.func8, Try.ntmps8
    go_wp2_with fail
    go_ret
    exact ⟨rfl, rfl⟩
  by_cases h3 : 60 < m
  · rw [if_neg (by omega)] at hc
    subst hc
    go_enter Try.func8, Try.ntmps8
    go_wp2_with fail
    go_ret
    exact ⟨rfl, rfl⟩
  · rw [if_pos (by omega)] at hc
    subst hc
    go_enter Try.func8, Try.ntmps8
    go_wp2_with fail
    go_ret
    exact ⟨rfl, rfl⟩

set_option maxHeartbeats 800000 in
theorem codes_same (A1 A2 : Option Addr) (c1 c2 : Nat) (l : List Int) (w : World) (h1 : Nums w w.heap.size A1 l) (h2 : Nums w w.heap.size A2 l) (hl : l.length ≤ 1000000) :
    Calls Try.prog 28 #[.slice A1 l.length c1, .slice A2 l.length c2] w fun e w' => e = .returned (.bool true) ∧ Below w.heap.size w w' := by
  go_enter Try.func28, Try.ntmps28
  go_wp2_with fail
  go_loopw [5] (fun i wr => ∃ k : Nat, k ≤ l.length ∧ i = .int .i64 k ∧ IntRel w wr) (fun i _ => l.length - (intOf i).toNat)
  case atStart => exact ⟨0, Nat.zero_le _, rfl, Below.refl _ _⟩
  case round =>
    obtain ⟨k, hk, rfl, hB⟩ := hrel
    unfold IntRel at hB
    by_cases hlt : k < l.length
    · obtain ⟨b, off, rfl, hb, hc⟩ := h1.below hB (by omega)
      obtain ⟨b', off', rfl, hb', hc'⟩ := h2.below hB (by omega)
      have x1 := hc k hlt
      have x2 := hc' k hlt
      clear hc hc'
      generalize l[k] = v at *
      go_wp2_with fail
      go_quiet (fail)
      go_wp2_with fail
      go_roundw
      case rel => exact ⟨k + 1, by omega, by go_num, below_drewN hB _⟩
      case measure => simp [intOf]; omega
    · have hkl : k = l.length := by omega
      subst hkl
      go_wp2_with fail
      go_ret
      exact ⟨rfl, hB⟩

theorem CodRow.nums {w : World} {g len : Nat} {c : Nat → Int} (h : CodRow w g len c) : Nums w w.heap.size (some ⟨g, 0, none⟩) ((List.range len).map c) := by
  intro _
  refine ⟨g, 0, rfl, Row.lt h, fun i hi => ?_⟩
  have hi' : i < len := by simpa using hi
  rw [Nat.zero_add, h.at_ hi']
  simp

#print axioms playcheck_any
#print axioms codes_same
end Go.Proofs.Ytejckoffllhjcaa
