/-
  The contract of beaconryref.Lists at two slices of slices of ints that read alike.
-/
import Derived.Test.YtkchccaeopdemaaInt
import Derived.Lib.QuietBelow
namespace Go.Proofs.Ytkchccaeopdemaa
open Go.RowKit Go.Maps

/-- A slice of slices of ints, for whoever reads it. -/
def Lsts (w : World) (B : Nat) (A : Option Addr) (ls : List (List Int)) : Prop :=
  0 < ls.length → ∃ b off, A = some ⟨b, off, none⟩ ∧ b < B ∧ ∀ i, (hi : i < ls.length) → ∃ Ai ci, w.cell? ⟨b, off + i, none⟩ = some (.slice Ai ls[i].length ci) ∧ Nums w B Ai ls[i]
theorem Lsts.below {w w' : World} {B : Nat} {A : Option Addr} {ls : List (List Int)} (h : Lsts w B A ls) (hb : Below B w w') : Lsts w' B A ls := by
  intro h0
  obtain ⟨b, off, e, hlt, hc⟩ := h h0
  refine ⟨b, off, e, hlt, fun i hi => ?_⟩
  obtain ⟨Ai, ci, c, hn⟩ := hc i hi
  exact ⟨Ai, ci, (hb.cell (p := ⟨b, off + i, none⟩) hlt).trans c, hn.below hb⟩
theorem Lsts.within {w w' : World} {A : Option Addr} {ls : List (List Int)} (h : Lsts w w.heap.size A ls) (hb : Below w.heap.size w w') : Lsts w' w'.heap.size A ls := by
  intro h0
  obtain ⟨b, off, e, hlt, hc⟩ := h.below hb h0
  refine ⟨b, off, e, Nat.lt_of_lt_of_le hlt hb.size, fun i hi => ?_⟩
  obtain ⟨Ai, ci, c, hn⟩ := hc i hi
  exact ⟨Ai, ci, c, hn.more hb.size⟩

set_option maxHeartbeats 1600000 in
theorem lists_same (A1 A2 : Option Addr) (c1 c2 : Nat) (ls : List (List Int)) (w : World) (h1 : Lsts w w.heap.size A1 ls) (h2 : Lsts w w.heap.size A2 ls) (hl : ls.length ≤ 1000000) (hls : ∀ x ∈ ls, x.length ≤ 1000000) :
    Calls Try.prog 11 #[.slice A1 ls.length c1, .slice A2 ls.length c2] w fun e w' => e = .returned (.bool true) ∧ Below w.heap.size w w' := by
  have hlsH := Lib.hid hls
  clear hls
  go_enter Try.func11, Try.ntmps11
  go_wp2_with fail
  go_loopw [5] (fun i wr => ∃ k : Nat, k ≤ ls.length ∧ i = .int .i64 k ∧ IntRel w wr) (fun i _ => ls.length - (intOf i).toNat)
  case atStart => exact ⟨0, Nat.zero_le _, rfl, Below.refl _ _⟩
  case round =>
    obtain ⟨k, hk, rfl, hB⟩ := hrel
    unfold IntRel at hB
    by_cases hlt : k < ls.length
    · obtain ⟨b, off, rfl, hb, hc⟩ := h1.below hB (by omega)
      obtain ⟨b', off', rfl, hb', hc'⟩ := h2.below hB (by omega)
      obtain ⟨Ai, ci, x1, hn1⟩ := hc k hlt
      obtain ⟨Bi, di, x2, hn2⟩ := hc' k hlt
      have hle := hlsH.out _ (List.getElem_mem hlt)
      clear hc hc'
      generalize ls[k] = v at *
      have hsz := hB.size
      have y1 := cell_regrown x1
      have y2 := cell_regrown x2
      have cA : Hid (∀ d os, Calls Try.prog 17 #[.slice Ai v.length ci, .slice Bi v.length di] (Sort.grow (redrawn wr d) os) fun e w'' => e = .returned (.bool true) ∧ ∃ p : Regrown, w'' = Sort.grow (redrawn wr p.d) p.os) := fun d os => Calls.regrown_of (by
        have hbr := below_regrown wr d os
        have m1 := ((hn1.more hsz).below hbr).more hbr.size
        have m2 := ((hn2.more hsz).below hbr).more hbr.size
        exact ints_same Ai Bi ci di v _ m1 m2 hle)
      clear x1 x2 hn1 hn2
      go_wp2_with fail
      refine wp_region_quiet_below (by kernel_rfl) (by kernel_rfl) ?_
      repeat (quiet_step (exact cA.out _ _))
      refine wpQuiet_nil ?_
      intro _ hw'
      obtain ⟨⟨dq, osq⟩, hw''⟩ := hw'
      subst hw''
      have hB6 := hB.trans ((below_regrown wr dq osq).mono hB.size)
      clear y1 y2 cA
      generalize Sort.grow (redrawn wr dq) osq = w7 at *
      go_wp2_with fail
      go_roundw
      case rel => exact ⟨k + 1, by omega, by go_num, hB6⟩
      case measure => simp [intOf]; omega
    · have hkl : k = ls.length := by omega
      subst hkl
      go_wp2_with fail
      go_ret
      exact ⟨rfl, hB⟩

#print axioms lists_same
end Go.Proofs.Ytkchccaeopdemaa
