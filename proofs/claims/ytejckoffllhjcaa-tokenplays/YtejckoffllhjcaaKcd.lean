/-
  The contracts of token.check, beaconryref.TreeCheck, beaconrykeep.treed.
-/
import Derived.Test.YtejckoffllhjcaaKck
import Derived.Test.YtejckoffllhjcaaMov
namespace Go.Proofs.Ytejckoffllhjcaa
open Go.RowKit Go.Maps
set_option linter.unusedVariables false

def checkK (l : List Int) (m : Nat) : Int := if 1 ≤ l.length ∧ l.length ≤ 6 ∧ m ≤ 60 then treeCode l else 1

set_option maxHeartbeats 1600000 in
theorem check_any (w : World) (A A2 : Option Addr) (cap cap2 : Nat) (l : List Int) (m : Nat) (hE : Nums w w.heap.size A l) (hl : l.length ≤ maxLen) (hm : m ≤ maxLen) :
    Calls Try.prog 15 #[.slice A l.length cap, .slice A2 m cap2] w fun e w' => e = .returned (.int .i64 (checkK l m)) ∧ Below w.heap.size w w' := by
  have hl2 : (l.length : Int) ≤ 9223372036854775807 := by unfold maxLen at hl; omega
  have hm2 : (m : Int) ≤ 9223372036854775807 := by unfold maxLen at hm; omega
  have hcode : Hid (checkK l m = if 1 ≤ l.length ∧ l.length ≤ 6 ∧ m ≤ 60 then treeCode l else 1) := rfl
  by_cases h1 : (l.length : Int) < 1
  · have hR : Hid (checkK l m = 1) := hcode.out.trans (if_neg (by omega))
    go_enter Try.func15, Try.ntmps15
    go_wp2_with fail
    go_ret
    exact ⟨by rw [hR.out]; rfl, Below.refl _ _⟩
  by_cases h2 : 6 < (l.length : Int)
  · have hR : Hid (checkK l m = 1) := hcode.out.trans (if_neg (by omega))
    go_enter Try.func15, Try.ntmps15
    go_wp2_with fail
    go_ret
    exact ⟨by rw [hR.out]; rfl, Below.refl _ _⟩
  by_cases h3 : 60 < (m : Int)
  · have hR : Hid (checkK l m = 1) := hcode.out.trans (if_neg (by omega))
    go_enter Try.func15, Try.ntmps15
    go_wp2_with fail
    go_ret
    exact ⟨by rw [hR.out]; rfl, Below.refl _ _⟩
  have hR : Hid (checkK l m = treeCode l) := hcode.out.trans (if_pos (by omega))
  have hn6 : l.length ≤ 6 := by omega
  have hn0 : 0 < l.length := by omega
  have hB := (Below.refl w.heap.size w).alloc (Nat.le_refl _) (.cells #[.int .i64 (l.length : Int)] 3)
  have hE2 : Nums (w.alloc (.cells #[.int .i64 (l.length : Int)] 3)) (w.alloc (.cells #[.int .i64 (l.length : Int)] 3)).heap.size A l := (hE.below hB).more (by simp)
  have hout := Lib.hid (outside_any l.length w)
  have hcf := Lib.hid (fun C h => containsFuncK_any l.length w.heap.size _ (by omega) (Row.made w 3 [.int .i64 (l.length : Int)]) A cap l hE2 (by omega) C h)
  have hbH := Lib.hid hB
  have htree := Lib.hid (fun hr => isTree_any _ A cap l hE2 hr hn6 hn0)
  have hbad : Hid (rngB l = false ↔ ∃ x ∈ l, outK l.length x = true) := by
    unfold Hid rngB
    rw [List.all_eq_false]
    simp
  have htc : Hid (treeCode l = if rngB l = true then (if treeB l.length (upN l) = true then 0 else 3) else 2) := rfl
  unfold outV at hout hcf
  clear hB hE hE2 hcode
  cases hr : rngB l with
  | false =>
    have hc1 := Lib.hid (hcf.out true ⟨fun _ => hbad.out.1 hr, fun _ => rfl⟩)
    have hR2 : Hid (checkK l m = 2) := by
      unfold Hid
      rw [hR.out, htc.out, if_neg (by rw [hr]; simp)]
    clear htree hbad hcf hR htc hr
    go_enter Try.func15, Try.ntmps15
    go_wp2_with fail
    refine hout.out.mono ?_
    rintro e w1 ⟨rfl, rfl⟩
    go_wp2_with fail
    refine hc1.out.mono ?_
    rintro e w1 ⟨rfl, rfl⟩
    go_wp2_with fail
    go_ret
    exact ⟨by rw [hR2.out]; rfl, hbH.out⟩
  | true =>
    have hc1 := Lib.hid (hcf.out false ⟨(nomatch ·), fun h => by have := hbad.out.2 h; rw [hr] at this; cases this⟩)
    have ht := Lib.hid (htree.out hr)
    cases htb : treeB l.length (upN l) with
    | true =>
      rw [htb] at ht
      have hR2 : Hid (checkK l m = 0) := by
        unfold Hid
        rw [hR.out, htc.out, if_pos hr, if_pos htb]
      clear htree hbad hcf hR htc hr htb
      go_enter Try.func15, Try.ntmps15
      go_wp2_with fail
      refine hout.out.mono ?_
      rintro e w1 ⟨rfl, rfl⟩
      go_wp2_with fail
      refine hc1.out.mono ?_
      rintro e w1 ⟨rfl, rfl⟩
      go_wp2_with fail
      refine ht.out.mono ?_
      rintro e w1 ⟨rfl, rfl⟩
      go_wp2_with fail
      go_ret
      exact ⟨by rw [hR2.out]; rfl, hbH.out⟩
    | false =>
      rw [htb] at ht
      have hR2 : Hid (checkK l m = 3) := by
        unfold Hid
        rw [hR.out, htc.out, if_pos hr, if_neg (by rw [htb]; simp)]
      clear htree hbad hcf hR htc hr htb
      go_enter Try.func15, Try.ntmps15
      go_wp2_with fail
      refine hout.out.mono ?_
      rintro e w1 ⟨rfl, rfl⟩
      go_wp2_with fail
      refine hc1.out.mono ?_
      rintro e w1 ⟨rfl, rfl⟩
      go_wp2_with fail
      refine ht.out.mono ?_
      rintro e w1 ⟨rfl, rfl⟩
      go_wp2_with fail
      go_ret
      exact ⟨by rw [hR2.out]; rfl, hbH.out⟩

#print axioms check_any
end Go.Proofs.Ytejckoffllhjcaa
