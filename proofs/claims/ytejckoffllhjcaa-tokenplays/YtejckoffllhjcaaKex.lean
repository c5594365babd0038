/-
  The contract of (*system).execute of package token.
-/
import Derived.Test.YtejckoffllhjcaaKco
import Derived.Test.YtejckoffllhjcaaMov
namespace Go.Proofs.Ytejckoffllhjcaa
open Go.RowKit Go.Maps
set_option linter.unusedVariables false

theorem stepK_kind {n : Nat} {S : KS} {m : Mv} (h : m.k < 1 ∨ 3 < m.k) : stepK n S m = (S, 6) := by unfold stepK; rw [if_pos h]
theorem stepK_from {n : Nat} {S : KS} {m : Mv} (h : ¬ (m.k < 1 ∨ 3 < m.k)) (h2 : ¬ (0 ≤ m.f ∧ m.f < n)) : stepK n S m = (S, 2) := by unfold stepK; rw [if_neg h, if_pos h2]
theorem stepK_want {n : Nat} {S : KS} {m : Mv} (h : m.k = 1) (h2 : 0 ≤ m.f ∧ m.f < n) : stepK n S m = if S.ins m.f.toNat = true ∨ m.f.toNat ∈ S.row m.f.toNat then (S, 7) else (S.enq m.f.toNat m.f.toNat, 0) := by
  unfold stepK
  rw [if_neg (by omega), if_neg (by omega), if_pos h]
theorem stepK_leave {n : Nat} {S : KS} {m : Mv} (h : m.k = 3) (h2 : 0 ≤ m.f ∧ m.f < n) : stepK n S m = if S.ins m.f.toNat = true then (S.leave m.f.toNat, 0) else (S, 7) := by
  unfold stepK
  rw [if_neg (by omega), if_neg (by omega), if_neg (by omega), if_pos h]
theorem stepK_to {n : Nat} {S : KS} {m : Mv} (h : m.k = 2) (h2 : 0 ≤ m.f ∧ m.f < n) (h3 : ¬ (0 ≤ m.t ∧ m.t < n) ∨ m.f = m.t) : stepK n S m = (S, 2) := by
  unfold stepK
  rw [if_neg (by omega), if_neg (by omega), if_neg (by omega), if_neg (by omega), if_pos h3]
theorem stepK_come {n : Nat} {S : KS} {m : Mv} (h : m.k = 2) (h2 : 0 ≤ m.f ∧ m.f < n) (h3 : ¬ (¬ (0 ≤ m.t ∧ m.t < n) ∨ m.f = m.t)) : stepK n S m = if S.q m.f.toNat m.t.toNat = [] then (S, 5) else (S.come m.f.toNat m.t.toNat, 0) := by
  unfold stepK
  rw [if_neg (by omega), if_neg (by omega), if_neg (by omega), if_neg (by omega), if_neg h3]
theorem KInvX.ok {n e o : Nat} {S : KS} (h : KInvX n S e o) (hn : n ≤ 6) : OkK n S 800 := ⟨h.ptrlt, fun x y hy => (h.rowlt x y hy).2, fun x y => Nat.le_trans (h.len_le x y) (by omega), fun x => Nat.le_trans (h.row_le x) (by omega)⟩

set_option maxHeartbeats 1000000 in
theorem execute_any (w : World) (B s P M n c : Nat) (S : KS) (hS : SysK w B s P M n c S) (hO : OkK n S 800) (m : Mv) (hm : MvFits m) (hn : n ≤ 6) (hc : c ≤ 70000) :
    Calls Try.prog 17 #[.pointer (some ⟨s, 0, none⟩), mvVal m] w (MovK B s P M n c w (stepK n S m).1 (stepK n S m).2) := by
  have hA := hS.alloc (.cells #[.int .i64 m.k, .int .i64 m.f, .int .i64 m.t, .int .i64 m.v] 40)
  have hKa := Lib.hid ((BlK.refl B w).alloc hS.sz (.cells #[.int .i64 m.k, .int .i64 m.f, .int .i64 m.t, .int .i64 m.v] 40))
  have hA2 := hA.alloc (.cells #[.int .i64 (n : Int)] 3)
  have hKb := Lib.hid (hKa.out.alloc hA.sz (.cells #[.int .i64 (n : Int)] 3))
  have hAc := Lib.hid (hA.mono (show c ≤ c + 7 by omega))
  have hBc := Lib.hid (hA2.mono (show c ≤ c + 7 by omega))
  have hAH := Lib.hid hA2
  obtain ⟨D0, f0, hAA⟩ := hA
  obtain ⟨s0, s1⟩ := hAA.cells
  have hR1 := Row.made w 40 [.int .i64 m.k, .int .i64 m.f, .int .i64 m.t, .int .i64 m.v]
  have hR2 := hR1.alloc (.cells #[.int .i64 (n : Int)] 3)
  have k0 := hR2.cell (i := 0) (by simp)
  have k1 := hR2.cell (i := 1) (by simp)
  have k2 := hR2.cell (i := 2) (by simp)
  simp only [List.getElem_cons_zero, List.getElem_cons_succ] at k0 k1 k2
  have hout := Lib.hid (outside_any n (w.alloc (.cells #[.int .i64 m.k, .int .i64 m.f, .int .i64 m.t, .int .i64 m.v] 40)))
  have hcl := Lib.hid (fun x => outcl_any n _ x _ (by omega) (Row.made (w.alloc (.cells #[.int .i64 m.k, .int .i64 m.f, .int .i64 m.t, .int .i64 m.v] 40)) 3 [.int .i64 (n : Int)]))
  have hzz : (w.alloc (.cells #[.int .i64 m.k, .int .i64 m.f, .int .i64 m.t, .int .i64 m.v] 40)).heap.size = w.heap.size + 1 := by simp
  rw [hzz] at hout hcl
  clear hzz
  have hOH := Lib.hid hO
  have hmk := Lib.hid (stepK_kind (n := n) (S := S) (m := m))
  have hmf := Lib.hid (stepK_from (n := n) (S := S) (m := m))
  have hmw := Lib.hid (stepK_want (n := n) (S := S) (m := m))
  have hml := Lib.hid (stepK_leave (n := n) (S := S) (m := m))
  have hmt := Lib.hid (stepK_to (n := n) (S := S) (m := m))
  have hmg := Lib.hid (stepK_come (n := n) (S := S) (m := m))
  clear hS hAA hO s1 hA2 hR1 hR2
  generalize hst : stepK n S m = R at *
  clear hst
  obtain ⟨k, f, t, v⟩ := m
  simp only at *
  obtain ⟨⟨k1', k2'⟩, ⟨f1, f2⟩, ⟨t1, t2⟩, ⟨v1, v2⟩⟩ := hm
  simp only at k1' k2' f1 f2 t1 t2 v1 v2
  unfold mvVal
  simp only
  by_cases hk1 : k < 1
  · have hR := Lib.hid (hmk.out (.inl hk1))
    clear hmk hmf hmw hml hmt hmg hout hcl k0 k1 k2
    go_enter Try.func17, Try.ntmps17
    go_wp2_with fail
    go_ret
    exact ⟨by rw [hR.out]; rfl, by rw [hR.out]; exact hAc.out, hKa.out⟩
  by_cases hk3 : 3 < k
  · have hR := Lib.hid (hmk.out (.inr hk3))
    clear hmk hmf hmw hml hmt hmg hout hcl k0 k1 k2
    go_enter Try.func17, Try.ntmps17
    go_wp2_with fail
    go_ret
    exact ⟨by rw [hR.out]; rfl, by rw [hR.out]; exact hAc.out, hKa.out⟩
  unfold outV at hout
  by_cases hf : 0 ≤ f ∧ f < n
  · have ef : outK n f = false := by rw [← Bool.not_eq_true, outK_iff]; omega
    have hf1 := Lib.hid (hcl.out f)
    rw [ef] at hf1
    clear ef
    by_cases hk : k = 3
    · have hR := Lib.hid (hml.out hk hf)
      subst hk
      obtain ⟨i, rfl⟩ : ∃ i : Nat, f = (i : Int) := ⟨f.toNat, by omega⟩
      rw [Int.toNat_natCast] at hR
      have hcall := Lib.hid (leave_all _ B s P M n c S hAH.out hOH.out i (by omega) hn (by omega) R hR.out)
      clear hmk hmf hmw hml hmt hmg hR hcl
      go_enter Try.func17, Try.ntmps17
      go_wp2_with fail
      refine hout.out.mono ?_
      rintro e w1 ⟨rfl, rfl⟩
      go_wp2_with fail
      refine hf1.out.mono ?_
      rintro e w1 ⟨rfl, rfl⟩
      go_wp2_with fail
      refine hcall.out.mono ?_
      rintro e w2 ⟨rfl, hS2, hK2⟩
      have hS2H := Lib.hid hS2
      clear hS2
      go_wp2_with fail
      go_ret
      exact ⟨rfl, hS2H.out, hKb.out.trans hK2⟩
    · have e3 : (k == 3) = false := by simpa using hk
      by_cases hkw : k = 1
      · have hR := Lib.hid (hmw.out hkw hf)
        subst hkw
        obtain ⟨i, rfl⟩ : ∃ i : Nat, f = (i : Int) := ⟨f.toNat, by omega⟩
        rw [Int.toNat_natCast] at hR
        have hcall := Lib.hid (want_all _ B s P M n c S hAH.out hOH.out i (by omega) hn (by omega) R hR.out)
        clear hmk hmf hmw hml hmt hmg hR hcl
        go_enter Try.func17, Try.ntmps17
        go_wp2_with fail
        refine hout.out.mono ?_
        rintro e w1 ⟨rfl, rfl⟩
        go_wp2_with fail
        refine hf1.out.mono ?_
        rintro e w1 ⟨rfl, rfl⟩
        go_wp2_with fail
        refine hcall.out.mono ?_
        rintro e w2 ⟨rfl, hS2, hK2⟩
        have hS2H := Lib.hid hS2
        clear hS2
        go_wp2_with fail
        go_ret
        exact ⟨rfl, hS2H.out, hKb.out.trans hK2⟩
      have hk2'' : k = 2 := by omega
      have ht0 := Lib.hid (hcl.out t)
      by_cases ht : 0 ≤ t ∧ t < n
      · have et : outK n t = false := by rw [← Bool.not_eq_true, outK_iff]; omega
        rw [et] at ht0
        clear et
        by_cases hft : f = t
        · have hR := Lib.hid (hmt.out hk2'' hf (.inr hft))
          have e4 : (f == t) = true := by simp [hft]
          subst hk2''
          clear hmk hmf hmw hml hmt hmg hcl hft hk hkw e3
          go_enter Try.func17, Try.ntmps17
          go_wp2_with fail
          refine hout.out.mono ?_
          rintro e w1 ⟨rfl, rfl⟩
          go_wp2_with fail
          refine hf1.out.mono ?_
          rintro e w1 ⟨rfl, rfl⟩
          go_wp2_with fail
          refine ht0.out.mono ?_
          rintro e w1 ⟨rfl, rfl⟩
          go_wp2_with fail
          go_ret
          exact ⟨by rw [hR.out]; rfl, by rw [hR.out]; exact hBc.out, hKb.out⟩
        · have e4 : (f == t) = false := by simpa using hft
          have hgood : ¬ (¬ (0 ≤ t ∧ t < n) ∨ f = t) := by omega
          have hR := Lib.hid (hmg.out hk2'' hf hgood)
          subst hk2''
          obtain ⟨i, rfl⟩ : ∃ i : Nat, f = (i : Int) := ⟨f.toNat, by omega⟩
          obtain ⟨j, rfl⟩ : ∃ j : Nat, t = (j : Int) := ⟨t.toNat, by omega⟩
          rw [Int.toNat_natCast, Int.toNat_natCast] at hR
          have hcall := Lib.hid (come_all _ B s P M n c S hAH.out hOH.out i j (by omega) (by omega) hn (by omega) R hR.out)
          unfold chA at hcall
          clear hmk hmf hmw hml hmt hmg hcl hR hft hk hkw e3 hgood
          go_enter Try.func17, Try.ntmps17
          go_wp2_with fail
          refine hout.out.mono ?_
          rintro e w1 ⟨rfl, rfl⟩
          go_wp2_with fail
          refine hf1.out.mono ?_
          rintro e w1 ⟨rfl, rfl⟩
          go_wp2_with fail
          refine ht0.out.mono ?_
          rintro e w1 ⟨rfl, rfl⟩
          go_wp2_with fail
          refine hcall.out.mono ?_
          rintro e w2 ⟨rfl, hS2, hK2⟩
          have hS2H := Lib.hid hS2
          clear hS2
          go_wp2_with fail
          go_ret
          exact ⟨rfl, hS2H.out, hKb.out.trans hK2⟩
      · have et : outK n t = true := outK_iff.2 ht
        rw [et] at ht0
        clear et
        have hR := Lib.hid (hmt.out hk2'' hf (.inl ht))
        have htH := Lib.hid ht
        have hfH := Lib.hid hf
        subst hk2''
        clear hmk hmf hmw hml hmt hmg hcl ht hk hkw hf e3
        go_enter Try.func17, Try.ntmps17
        go_wp2_with fail
        refine hout.out.mono ?_
        rintro e w1 ⟨rfl, rfl⟩
        go_wp2_with fail
        refine hf1.out.mono ?_
        rintro e w1 ⟨rfl, rfl⟩
        go_wp2_with fail
        refine ht0.out.mono ?_
        rintro e w1 ⟨rfl, rfl⟩
        go_wp2_with fail
        go_ret
        exact ⟨by rw [hR.out]; rfl, by rw [hR.out]; exact hBc.out, hKb.out⟩
  · have ef : outK n f = true := outK_iff.2 hf
    have hf1 := Lib.hid (hcl.out f)
    rw [ef] at hf1
    clear ef
    have hR := Lib.hid (hmf.out (by omega) hf)
    have hfH := Lib.hid hf
    clear hmk hmf hmw hml hmt hmg hcl hf
    go_enter Try.func17, Try.ntmps17
    go_wp2_with fail
    refine hout.out.mono ?_
    rintro e w1 ⟨rfl, rfl⟩
    go_wp2_with fail
    refine hf1.out.mono ?_
    rintro e w1 ⟨rfl, rfl⟩
    go_wp2_with fail
    go_ret
    exact ⟨by rw [hR.out]; rfl, by rw [hR.out]; exact hBc.out, hKb.out⟩

#print axioms execute_any
end Go.Proofs.Ytejckoffllhjcaa
