/-
  The contracts of (*system).has and (*system).put of package snap.
-/
import Derived.Test.YtebighmddimnkaaSys
import Derived.BigQuiet
namespace Go.Proofs.Ytebighmddimnkaa
open Go.RowKit Go.Maps

set_option maxHeartbeats 800000 in
theorem has_any (w : World) (s n P : Nat) (x : Int) (s0 : w.cell? ⟨s, 0, none⟩ = some (.slice (some ⟨P, 0, none⟩) n n)) (C : Bool) (hC : C = true ↔ (0 ≤ x ∧ x < n)) :
    Calls Try.prog 24 #[.pointer (some ⟨s, 0, none⟩), .int .i64 x] w fun e w' => e = .returned (.bool C) ∧ w' = w := by
  have hCH := Lib.hid hC
  clear hC
  by_cases h1 : 0 ≤ x
  · by_cases h2 : x < n
    · have : C = true := hCH.out.2 ⟨h1, h2⟩
      subst this
      clear hCH
      go_enter Try.func24, Try.ntmps24
      go_wp2_with fail
      go_ret
      exact ⟨rfl, rfl⟩
    · have : C = false := by
        cases C with
        | false => rfl
        | true => exact absurd (hCH.out.1 rfl).2 h2
      subst this
      clear hCH
      go_enter Try.func24, Try.ntmps24
      go_wp2_with fail
      go_ret
      exact ⟨rfl, rfl⟩
  · have : C = false := by
      cases C with
      | false => rfl
      | true => exact absurd (hCH.out.1 rfl).1 h1
    subst this
    clear hCH
    go_enter Try.func24, Try.ntmps24
    go_wp2_with fail
    go_ret
    exact ⟨rfl, rfl⟩

set_option maxHeartbeats 800000 in
theorem put_any (w : World) (B s n P M : Nat) (ch : Nat → Nat → Nat) (S : St) (hS : Sys w B s n P M ch S) (i j : Nat) (hc : Chl n i j) (x : Int) (hl : (S.q i j).length ≤ 1000) :
    Calls Try.prog 28 #[.pointer (some ⟨s, 0, none⟩), .int .i64 (i : Int), .int .i64 (j : Int), .int .i64 x] w fun e w' => e = .returned (.tuple #[]) ∧ Sys w' B s n P M ch (S.put i j x) ∧ Bl B w w' := by
  obtain ⟨vs, hA⟩ := hS
  obtain ⟨s0, s1⟩ := hA.cells
  obtain ⟨c0, _, _⟩ := hA.chan hc
  have hsz := hA.sz
  have hrw := hA.chn i j hc
  have hM := hA.map
  have hlow := hA.lowC i j hc
  have hcf := Lib.hid (chF_yes ch hc)
  have hQ0 := hA.que i j hc
  have hneC : Hid ((vs i j).ownBlock ≠ some (ch i j)) := hQ0.ne_row hrw (by decide)
  have hQ := hQ0.alloc (.cells #[.int .i64 x] 3)
  have hAa := Lib.hid (hA.alloc (.cells #[.int .i64 x] 3))
  have hBa := (Bl.refl B w).alloc hsz (.cells #[.int .i64 x] 3)
  have hrwa := hrw.alloc (.cells #[.int .i64 x] 3)
  have hy : (w.alloc (.cells #[.int .i64 x] 3)).cell? ⟨w.heap.size, 0, none⟩ = some (.int .i64 x) := by simp
  have hsza : B ≤ (w.alloc (.cells #[.int .i64 x] 3)).heap.size := by simp; omega
  obtain ⟨j0, hi0, hz0, hz1, hz2⟩ := info_parts infoInt
  have hJi := Lib.hid hi0; have hJz := Lib.hid hz0; have hJs := Lib.hid hz1; have hJb := Lib.hid hz2
  have hcH := Lib.hid hc
  clear hi0 hz0 hz1 hz2 hA hrw hQ0 hc
  generalize hvv : vs i j = v0 at *
  have hvH := Lib.hid hvv
  clear hvv
  generalize hbb : ch i j = cb at *
  have hbH := Lib.hid hbb
  clear hbb
  generalize hqq : S.q i j = xs at *
  have hqH := Lib.hid hqq
  clear hqq
  go_enter Try.func28, Try.ntmps28
  go_wp2_with (first
    | (at_lookup; refine wpList_lookP rfl _ _ rfl M 100 (chF n ch) i j _ hcf.out rfl hM rfl ?_)
    | (at_builtin; refine wpList_append_que rfl (.tmp 21) (.tmp 23) rfl j0 hJi.out hJz.out hJs.out hJb.out v0 xs rfl hQ hsza hl ⟨w.heap.size, 0, none⟩ x rfl hy ?_; intro v2 w2 hQ2 hg2 hat2
       obtain ⟨A2, cap2, hv2, _, _, _⟩ := hQ2.shape
       rw [List.length_append, List.length_singleton] at hv2
       subst hv2
       have c02 := hg2.cell (hrwa.cell (i := 0) (by simp)) (fun e => hneC.out e.symm)
       have hf2 := (hrwa.grown hg2 (fun e => hneC.out e.symm)).frozen 0
       have hB2 := hBa.grownQ hg2 hQ hsza
       have hB3 : Bl B w (w2.setCell ⟨cb, 0, none⟩ (.slice A2 (xs.length + 1) cap2)) := hB2.setRow (p := ⟨cb, 0, none⟩) (hrwa.grown hg2 (fun e => hneC.out e.symm)) (by decide) hlow _
       clear hB2 hQ hy hBa hrwa))
  have hfin : Sys (w2.setCell ⟨cb, 0, none⟩ (.slice A2 (xs.length + 1) cap2)) B s n P M ch (S.put i j x) := by
    have := hbH.out
    subst this
    refine ⟨_, hAa.out.put hcH.out (by rw [hqH.out]; exact hQ2) (by rw [hvH.out]; exact hg2) ?_⟩
    rw [hvH.out]
    rcases hat2 with h1 | h1
    · exact .inl h1
    · exact .inr ⟨_, h1, Nat.le_refl _⟩
  go_end0
  exact ⟨rfl, hfin, hB3⟩

#print axioms has_any
#print axioms put_any
end Go.Proofs.Ytebighmddimnkaa
