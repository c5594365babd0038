/-
  The contract of run.permutes.
-/
import Derived.Test.YtiokfehckhbnaaaInfo
import Derived.Test.YtiokfehckhbnaaaRowW
import Derived.Test.YtiokfehckhbnaaaPerms
namespace Go.Proofs.Ytiokfehckhbnaaa
open Go.RowKit Go.Maps

def PermRel (o : List Int) (c : Nat) (C : Bool) (w : World) (g k : Nat) (wr : World) : Prop :=
  ∃ seen, Row wr g 4 (bools seen) ∧ seen.length = c ∧ permGo seen (o.drop k) = C ∧ Below w.heap.size w wr

set_option maxHeartbeats 1000000 in
theorem permutes_loop (A : Option Addr) (cap : Nat) (o : List Int) (w : World) (hE : Nums w w.heap.size A o) (h30 : o.length ≤ 30) (C : Bool) (hC : Hid (permGo (List.replicate o.length false) o = C)) :
    Calls Try.prog 35 #[.slice A o.length cap, .int .i64 o.length] w fun e w' => e = .returned (.bool C) ∧ Below w.heap.size w w' := by
  obtain ⟨i0, hi0, hz0, hz1, hz2⟩ := info_parts info4
  have hz2' : i0.bytes * o.length ≤ 281474976710656 := by rw [hz2]; omega
  have hHi := Lib.hid hi0; have hHz := Lib.hid hz0; have hHs := Lib.hid hz1
  clear hi0 hz0 hz1 hz2
  go_enter Try.func35, Try.ntmps35
  go_wp2_with (first
    | (at_make; refine wpList_make_row _ rfl _ _ 40 rfl 4 i0 (.bool false) Try.underlying40 hHi.out hHz.out hHs.out rfl .i64 .i64 _ _ o.length rfl rfl rfl rfl hz2' (by unfold maxLen; omega) ?_; intro w1 hR1 hG1))
  have hB1 : Below w.heap.size w w1 := (Below.refl _ _).grown hG1 (Nat.le_refl _) (by simp)
  have hlt1 := hR1.lt
  go_loopw [16] (fun i wr => ∃ k : Nat, k ≤ o.length ∧ i = .int .i64 k ∧ PermRel o o.length C w w.heap.size k wr) (fun i _ => o.length - (intOf i).toNat)
  case atStart => exact ⟨0, Nat.zero_le _, rfl, List.replicate o.length false, by rw [bools, List.map_replicate]; exact hR1, by simp, by simpa using hC.out, hB1⟩
  case round =>
    obtain ⟨k, hk, rfl, seen, hR, hsl, hp, hB⟩ := hrel
    by_cases hlt : k < o.length
    · obtain ⟨b, off, rfl, hb, hc⟩ := hE.below hB (by omega)
      have c0 := hc k hlt
      rw [permGo_drop seen o hlt] at hp
      have hpH := Lib.hid hp
      have hslH := Lib.hid hsl
      clear hc hp hsl
      generalize o[k] = x at *
      by_cases h1 : x < 0
      · have hf : Hid (C = false) := by have := hpH.out; rw [if_neg (by omega)] at this; exact this.symm
        go_wp2
        go_ret
        exact ⟨by rw [hf.out]; rfl, hB⟩
      by_cases h2 : (o.length : Int) ≤ x
      · have hf : Hid (C = false) := by have := hpH.out; rw [if_neg (by rw [hslH.out]; omega)] at this; exact this.symm
        go_wp2
        go_ret
        exact ⟨by rw [hf.out]; rfl, hB⟩
      obtain ⟨y, rfl⟩ := Int.eq_ofNat_of_zero_le (show 0 ≤ x by omega)
      have hy : y < o.length := by omega
      have hys : y < seen.length := by rw [hslH.out]; exact hy
      rw [Int.toNat_natCast] at hpH
      have hcell : wr.cell? ⟨w.heap.size, y, none⟩ = some (.bool seen[y]) := by
        have := hR.cell (i := y) (by simp [bools]; exact hys)
        simpa [bools] using this
      have hfro := hR.frozen y
      have hgd : seen.getD y true = seen[y] := by simp [hys]
      rw [hgd] at hpH
      clear hgd
      generalize hv : seen[y] = v at *
      clear hv
      cases v with
      | true =>
        have hf : Hid (C = false) := by have := hpH.out; rw [if_neg (by simp)] at this; exact this.symm
        clear hpH
        go_wp2
        go_ret
        exact ⟨by rw [hf.out]; rfl, hB⟩
      | false =>
        have hf : Hid (permGo (seen.set y true) (o.drop (k + 1)) = C) := by have := hpH.out; rw [if_pos ⟨by omega, rfl⟩] at this; exact this
        clear hpH
        have hR2 : Row (wr.setCell ⟨w.heap.size, y, none⟩ (.bool true)) w.heap.size 4 (bools (seen.set y true)) := by
          have := hR.set y (.bool true)
          unfold bools at this ⊢
          rw [List.map_set]; exact this
        have hB2 : Below w.heap.size w (wr.setCell ⟨w.heap.size, y, none⟩ (.bool true)) := hB.setCell (p := ⟨w.heap.size, y, none⟩) (Nat.le_refl _) _
        go_wp2
        go_roundw
        case rel => exact ⟨k + 1, by omega, by go_num, _, hR2, by rw [List.length_set]; exact hslH.out, hf.out, hB2⟩
        case measure => simp [intOf]; omega
    · have hkl : k = o.length := by omega
      have hC0 : Hid (C = true) := by unfold Hid; rw [← hp, hkl]; simp [permGo]
      clear hp
      go_wp2
      go_ret
      exact ⟨by rw [hC0.out]; rfl, hB⟩

set_option maxHeartbeats 400000 in
theorem permutes_any (A : Option Addr) (cap : Nat) (o : List Int) (c : Nat) (w : World) (hE : Nums w w.heap.size A o) (hc : c ≤ 30) :
    Calls Try.prog 35 #[.slice A o.length cap, .int .i64 c] w fun e w' => e = .returned (.bool (permB o c)) ∧ Below w.heap.size w w' := by
  by_cases h : o.length = c
  · subst h
    exact permutes_loop A cap o w hE hc _ (by unfold Hid permB; rw [if_pos rfl])
  · have e1 : permB o c = false := by unfold permB; rw [if_neg h]
    rw [e1]
    have hb : ((o.length : Int) != (c : Int)) = true := by simp; omega
    have hb' : (o.length != c) = true := by simp; omega
    clear e1 h
    go_enter Try.func35, Try.ntmps35
    go_wp2
    go_ret
    exact ⟨rfl, Below.refl _ _⟩

#print axioms permutes_any
end Go.Proofs.Ytiokfehckhbnaaa
