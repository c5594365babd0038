/-
  The contract of beaconrykeep.linked.
-/
import Derived.Test.YtjmkmfeibempjaaRlk
namespace Go.Proofs.Ytjmkmfeibempjaa
open Go.RowKit Go.Maps
set_option linter.unusedVariables false

theorem ecode_iff (n : Int) (l : List Lk) (s : Int) (m : Nat) : ecode n l s m = 0 ↔ lcode n l = 0 ∧ Once l ∧ inP n s = true ∧ m ≤ 60 := by
  constructor
  · intro h
    obtain ⟨h1, h2, h3, h4, h5⟩ := ecode_zero h
    exact ⟨lcode_ok h1 h3, h5, h4, h2⟩
  · rintro ⟨h1, h2, h3, h4⟩
    obtain ⟨h5, h6⟩ := lcode_zero h1
    exact ecode_ok (fun h => by rcases h with h | h; exact h5 h; omega) h6 h3 h2
theorem inB_one (n s : Int) : inB n [s] = inP n s := by simp [inB, inP]

set_option maxHeartbeats 1600000 in
theorem linked_any (A : Option Addr) (cap : Nat) (l : List Lk) (n s : Int) (m : Nat) (w : World) (hE : Lks w w.heap.size A l) (hc : l.length ≤ cap) (hl : l.length ≤ 17592186044416) (hm : m ≤ 17592186044416) (C : Bool) (hC0 : C = true ↔ ecode n l s m = 0) :
    Calls Try.prog 13 #[.int .i64 n, .slice A l.length cap, .int .i64 s, .int .i64 (m : Int)] w fun e w' => e = .returned (.bool C) ∧ Below w.heap.size w w' := by
  rw [ecode_iff] at hC0
  have hC := Lib.hid hC0
  have hEH := Lib.hid hE
  have hLC := Lib.hid (linkscheck_any A cap l n w hE hl)
  clear hE hC0
  by_cases c1 : lcode n l = 0
  · have v1 : (lcode n l == 0) = true := by simp [c1]
    have c1H := Lib.hid c1
    clear c1
    by_cases c2 : Once l
    · have c2H := Lib.hid c2
      have htw : Hid (∀ w, Lks w w.heap.size A l → Calls Try.prog 9 #[.slice A l.length cap] w fun e w' => e = .returned (.bool false) ∧ Below w.heap.size w w') := fun w hE => twice_any A cap l w hE hc hl false ⟨(nomatch ·), fun h => absurd c2 h⟩
      clear c2
      cases hP : inP n s with
      | false =>
        have hin : Hid (inB n [s] = false) := by unfold Hid; rw [inB_one]; exact hP
        have hfin : Hid (C = false) := by unfold Hid; rw [← Bool.not_eq_true, hC.out, hP]; simp
        clear hP
        generalize lcode n l = L at *
        go_enter Try.func13, Try.ntmps13
        go_wp2_with fail
        refine hLC.out.mono ?_
        rintro e w1 ⟨rfl, hB1⟩
        go_wp2_with fail
        refine (htw.out w1 ((hEH.out.below hB1).more hB1.size)).mono ?_
        rintro e w2 ⟨rfl, hB2⟩
        have hB3 := hB1.trans (hB2.mono hB1.size)
        have hB4 := Lib.hid (hB3.alloc hB3.size (.cells #[.int .i64 s] 3))
        have hcall := Lib.hid (inside_any (some ⟨w2.heap.size, 0, none⟩) 1 [s] n _ (nums1 w2 s 3) (by simp) false hin)
        clear hB1 hB2 hB3
        go_wp2_with fail
        refine hcall.out.mono ?_
        rintro e w5 ⟨rfl, rfl⟩
        go_wp2_with fail
        go_ret
        exact ⟨by rw [hfin.out]; rfl, hB4.out⟩
      | true =>
        have hin : Hid (inB n [s] = true) := by unfold Hid; rw [inB_one]; exact hP
        have hfin : Hid (C = decide ((m : Int) ≤ 60)) := by
          unfold Hid
          rw [Bool.eq_iff_iff, hC.out, hP]
          simp [c1H.out, c2H.out]
          omega
        clear hP
        generalize lcode n l = L at *
        go_enter Try.func13, Try.ntmps13
        go_wp2_with fail
        refine hLC.out.mono ?_
        rintro e w1 ⟨rfl, hB1⟩
        go_wp2_with fail
        refine (htw.out w1 ((hEH.out.below hB1).more hB1.size)).mono ?_
        rintro e w2 ⟨rfl, hB2⟩
        have hB3 := hB1.trans (hB2.mono hB1.size)
        have hB4 := Lib.hid (hB3.alloc hB3.size (.cells #[.int .i64 s] 3))
        have hcall := Lib.hid (inside_any (some ⟨w2.heap.size, 0, none⟩) 1 [s] n _ (nums1 w2 s 3) (by simp) true hin)
        clear hB1 hB2 hB3
        go_wp2_with fail
        refine hcall.out.mono ?_
        rintro e w5 ⟨rfl, rfl⟩
        go_wp2_with fail
        go_ret
        exact ⟨by rw [hfin.out]; rfl, hB4.out⟩
    · have htw : Hid (∀ w, Lks w w.heap.size A l → Calls Try.prog 9 #[.slice A l.length cap] w fun e w' => e = .returned (.bool true) ∧ Below w.heap.size w w') := fun w hE => twice_any A cap l w hE hc hl true ⟨fun _ => c2, fun _ => rfl⟩
      have hfin : Hid (C = false) := by unfold Hid; rw [← Bool.not_eq_true, hC.out]; exact fun h => c2 h.2.1
      clear c2
      generalize lcode n l = L at *
      go_enter Try.func13, Try.ntmps13
      go_wp2_with fail
      refine hLC.out.mono ?_
      rintro e w1 ⟨rfl, hB1⟩
      go_wp2_with fail
      refine (htw.out w1 ((hEH.out.below hB1).more hB1.size)).mono ?_
      rintro e w2 ⟨rfl, hB2⟩
      have hB3 := Lib.hid (hB1.trans (hB2.mono hB1.size))
      clear hB1 hB2
      go_wp2_with fail
      go_ret
      exact ⟨by rw [hfin.out]; rfl, hB3.out⟩
  · have v1 : (lcode n l == 0) = false := by simp [c1]
    have hfin : Hid (C = false) := by unfold Hid; rw [← Bool.not_eq_true, hC.out]; exact fun h => c1 h.1
    clear c1
    generalize lcode n l = L at *
    go_enter Try.func13, Try.ntmps13
    go_wp2_with fail
    refine hLC.out.mono ?_
    rintro e w1 ⟨rfl, hB1⟩
    have hB3 := Lib.hid hB1
    clear hB1
    go_wp2_with fail
    go_ret
    exact ⟨by rw [hfin.out]; rfl, hB3.out⟩
#print axioms linked_any
end Go.Proofs.Ytjmkmfeibempjaa
