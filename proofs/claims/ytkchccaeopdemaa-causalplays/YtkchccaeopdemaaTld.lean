/-
  The contract of (*group).told of package causal; what Play's result says.
-/
import Derived.Test.YtkchccaeopdemaaRdy
import Derived.Test.YtkchccaeopdemaaLss
namespace Go.Proofs.Ytkchccaeopdemaa
open Go.RowKit Go.Maps

theorem infoInts : (Try.prog.info? 37).map (fun i => (i.zero, i.size, i.bytes)) = some (some (.slice none 0 0), 1, 24) := by kernel_rfl
/-- The first k headers, and nils. -/
def tldRow (vs : Nat → Value) (n k : Nat) : List Value := (List.range n).map fun j => if j < k then vs (2 * j) else .slice none 0 0
theorem tldRow_len (vs : Nat → Value) (n k : Nat) : (tldRow vs n k).length = n := by simp [tldRow]
theorem tldRow_zero (vs : Nat → Value) (n : Nat) : List.replicate n (Value.slice none 0 0) = tldRow vs n 0 := by
  apply List.ext_getElem
  · simp [tldRow]
  · intro b h1 h2; simp [tldRow]
theorem tldRow_set (vs : Nat → Value) {n k : Nat} : (tldRow vs n k).set k (vs (2 * k)) = tldRow vs n (k + 1) := by
  apply List.ext_getElem
  · simp [tldRow]
  · intro b h1 h2
    rw [List.getElem_set]
    by_cases e : k = b
    · subst e
      simp [tldRow]
    · rw [if_neg e]
      simp only [tldRow, List.getElem_map, List.getElem_range]
      by_cases h : b < k
      · rw [if_pos h, if_pos (by omega)]
      · rw [if_neg h, if_neg (by omega)]
def TldRel (w : World) (vs : Nat → Value) (T n k : Nat) (wr : World) : Prop := Row wr T 37 (tldRow vs n k) ∧ Below w.heap.size w wr

set_option maxHeartbeats 1600000 in
theorem told_any (w : World) (B gb n P : Nat) (vs : Nat → Value) (vm : Value) (S : CS) (hA : GrpAt w B gb n P vs vm S) (hn : n ≤ 6) :
    Calls Try.prog 19 #[.pointer (some ⟨gb, 0, none⟩)] w fun e w' => e = .returned (.slice (some ⟨w.heap.size, 0, none⟩) n n) ∧ Row w' w.heap.size 37 (tldRow vs n n) ∧ Below w.heap.size w w' := by
  obtain ⟨j0, hi0, hz0, hz1, hz2⟩ := info_parts infoInts
  have hJi := Lib.hid hi0; have hJz := Lib.hid hz0; have hJs := Lib.hid hz1
  have b2 : j0.bytes * n ≤ 281474976710656 := by rw [hz2]; omega
  clear hi0 hz0 hz1 hz2
  obtain ⟨g0, _⟩ := hA.cells
  have hltG := hA.grp.lt
  have hltP := hA.procLt
  have hAH := Lib.hid hA
  clear hA
  go_enter Try.func19, Try.ntmps19
  go_wp2_with (first
    | (at_make; refine wpList_make_row _ rfl _ _ 24 rfl 37 j0 (.slice none 0 0) Try.underlying24 hJi.out hJz.out hJs.out rfl .i64 .i64 _ _ n rfl rfl rfl rfl b2 (by unfold maxLen; omega) ?_; intro w1 hR1 hG1; have z0 : w1.cell? ⟨gb, 0, none⟩ = some (.slice (some ⟨P, 0, none⟩) n n) := hG1.cell g0 (by simp)))
  have hrel1 : TldRel w vs w.heap.size n 0 w1 := ⟨by rw [← tldRow_zero]; exact hR1, (Below.refl _ _).grown hG1 (Nat.le_refl _) (by simp)⟩
  clear hR1 hG1 z0
  generalize hT : w.heap.size = T at *
  have hTH := Lib.hid hT
  clear hT
  go_loopw [17] (fun t wr => ∃ k : Nat, k ≤ n ∧ t = .int .i64 k ∧ TldRel w vs T n k wr) (fun t _ => n - (intOf t).toNat)
  case atStart => exact ⟨0, Nat.zero_le _, rfl, hrel1⟩
  case round =>
    clear hrel1
    obtain ⟨k, hk, rfl, hR, hB⟩ := hrel
    by_cases hlt : k < n
    · have hkI : (k : Int) < (n : Int) := by omega
      obtain ⟨p0, p1⟩ := hAH.out.proc hlt
      obtain ⟨At, ct, hvt, _, _, _⟩ := hAH.out.nums (j := 2 * k) (by omega)
      obtain ⟨Aq, cq, hvq, _, _, _⟩ := hAH.out.nums (j := 2 * k + 1) (by omega)
      have q0 : wr.cell? ⟨P, k * 2, none⟩ = some (vs (2 * k)) := (hB.cell (p := ⟨P, k * 2, none⟩) (by rw [hTH.out]; exact hltP)).trans p0
      have q1 : wr.cell? ⟨P, k * 2 + 1, none⟩ = some (vs (2 * k + 1)) := (hB.cell (p := ⟨P, k * 2 + 1, none⟩) (by rw [hTH.out]; exact hltP)).trans p1
      rw [hvt] at q0
      rw [hvq] at q1
      have hvtH := Lib.hid hvt
      have hRl := hR.lt
      have hR2 := hR.alloc (.cells #[.slice At (S.ls (2 * k)).length ct, .slice Aq (S.ls (2 * k + 1)).length cq] 56)
      have r0 := hR2.cell (i := k) (by rw [tldRow_len]; exact hlt)
      have rv : (tldRow vs n k)[k]'(by rw [tldRow_len]; exact hlt) = .slice none 0 0 := by simp [tldRow]
      rw [rv] at r0
      have rf := hR2.frozen k
      have m0 : (wr.alloc (.cells #[.slice At (S.ls (2 * k)).length ct, .slice Aq (S.ls (2 * k + 1)).length cq] 56)).cell? ⟨wr.heap.size, 0, none⟩ = some (.slice At (S.ls (2 * k)).length ct) := by simp [World.cell?_alloc_new]
      have hrel3 : Hid (TldRel w vs T n (k + 1) ((wr.setCell ⟨T, k, none⟩ (.slice At (S.ls (2 * k)).length ct)).alloc (.cells #[.slice At (S.ls (2 * k)).length ct, .slice Aq (S.ls (2 * k + 1)).length cq] 56))) := by
        have hB3 : Below w.heap.size w (wr.setCell ⟨T, k, none⟩ (.slice At (S.ls (2 * k)).length ct)) := hB.setCell (p := ⟨T, k, none⟩) (by rw [hTH.out]; exact Nat.le_refl _) _
        refine ⟨?_, hB3.alloc hB3.size _⟩
        have := hR.set k (.slice At (S.ls (2 * k)).length ct)
        rw [← hvtH.out, tldRow_set] at this
        have h4 := this.alloc (.cells #[.slice At (S.ls (2 * k)).length ct, .slice Aq (S.ls (2 * k + 1)).length cq] 56)
        rw [hvtH.out] at h4
        exact h4
      generalize (S.ls (2 * k)).length = lt at *
      generalize (S.ls (2 * k + 1)).length = lq at *
      clear hR hB hR2 p0 p1 rv hvt hvq
      go_wp2_with fail
      go_roundw
      case rel => exact ⟨k + 1, by omega, by go_num, hrel3.out⟩
      case measure => simp [intOf]; omega
    · have hkn : k = n := by omega
      subst hkn
      have hRH := Lib.hid hR
      have hBH := Lib.hid hB
      clear hR hB
      go_wp2_with fail
      go_ret
      exact ⟨by rw [hTH.out]; rfl, by rw [hTH.out]; exact hRH.out, hBH.out⟩

/-- What was told, as a list of lists. -/
def toldL (n : Nat) (S : CS) : List (List Int) := (List.range n).map fun i => zs (S.td i)
/-- A slice of slices of ints, for whoever reads it, with the slices' room. -/
def Tls (w : World) (B : Nat) (A : Option Addr) (ls : List (List Int)) : Prop :=
  0 < ls.length → ∃ b off, A = some ⟨b, off, none⟩ ∧ b < B ∧ ∀ i, (hi : i < ls.length) → ∃ Ai ci, w.cell? ⟨b, off + i, none⟩ = some (.slice Ai ls[i].length ci) ∧ ls[i].length ≤ ci ∧ Nums w B Ai ls[i]
theorem Tls.lsts {w : World} {B : Nat} {A : Option Addr} {ls : List (List Int)} (h : Tls w B A ls) : Lsts w B A ls := fun h0 => by
  obtain ⟨b, off, e, hlt, hc⟩ := h h0
  refine ⟨b, off, e, hlt, fun i hi => ?_⟩
  obtain ⟨Ai, ci, c, _, hn⟩ := hc i hi
  exact ⟨Ai, ci, c, hn⟩
theorem Tls.below {w w' : World} {B : Nat} {A : Option Addr} {ls : List (List Int)} (h : Tls w B A ls) (hb : Below B w w') : Tls w' B A ls := by
  intro h0
  obtain ⟨b, off, e, hlt, hc⟩ := h h0
  refine ⟨b, off, e, hlt, fun i hi => ?_⟩
  obtain ⟨Ai, ci, c, hl, hn⟩ := hc i hi
  exact ⟨Ai, ci, (hb.cell (p := ⟨b, off + i, none⟩) hlt).trans c, hl, hn.below hb⟩
theorem Tls.within {w w' : World} {A : Option Addr} {ls : List (List Int)} (h : Tls w w.heap.size A ls) (hb : Below w.heap.size w w') : Tls w' w'.heap.size A ls := by
  intro h0
  obtain ⟨b, off, e, hlt, hc⟩ := h.below hb h0
  refine ⟨b, off, e, Nat.lt_of_lt_of_le hlt hb.size, fun i hi => ?_⟩
  obtain ⟨Ai, ci, c, hl, hn⟩ := hc i hi
  exact ⟨Ai, ci, c, hl, hn.more hb.size⟩
theorem Tls.of {w : World} {B gb n P T : Nat} {vs : Nat → Value} {vm : Value} {S : CS} (h : GrpAt w B gb n P vs vm S) (hR : Row w T 37 (tldRow vs n n)) : Tls w w.heap.size (some ⟨T, 0, none⟩) (toldL n S) := fun _ => by
  refine ⟨T, 0, rfl, hR.lt, fun i hi => ?_⟩
  have hin : i < n := by simpa [toldL] using hi
  obtain ⟨At, ct, hvt, hl, _, hN⟩ := h.nums (j := 2 * i) (by omega)
  have e : (toldL n S)[i] = zs (S.td i) := by simp [toldL]
  refine ⟨At, ct, ?_, ?_, ?_⟩
  · rw [Nat.zero_add, hR.cell (by rw [tldRow_len]; exact hin)]
    simp only [tldRow, List.getElem_map, List.getElem_range, if_pos hin, e, zs_len]
    rw [hvt]; rfl
  · rw [e, zs_len]; exact hl
  · rw [e]; exact hN

#print axioms told_any
#print axioms Tls.of
end Go.Proofs.Ytkchccaeopdemaa
