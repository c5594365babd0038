/-
  The contract of (*system).execute of package quiet.
-/
import Derived.Test.YtichcahlokjblaaQst
import Derived.Test.YtichcahlokjblaaMov
namespace Go.Proofs.Ytichcahlokjblaa
open Go.RowKit Go.Maps
set_option linter.unusedVariables false

theorem stepQ_kind {n : Nat} {S : QS} {m : Mv} (h : m.k < 1 ∨ 3 < m.k) : stepQ n S m = (S, 6) := by unfold stepQ; rw [if_pos h]
theorem stepQ_from {n : Nat} {S : QS} {m : Mv} (h : ¬ (m.k < 1 ∨ 3 < m.k)) (h2 : ¬ (0 ≤ m.f ∧ m.f < n)) : stepQ n S m = (S, 2) := by unfold stepQ; rw [if_neg h, if_pos h2]
theorem stepQ_rest {n : Nat} {S : QS} {m : Mv} (h : m.k = 3) (h2 : 0 ≤ m.f ∧ m.f < n) : stepQ n S m = if S.act m.f.toNat = true then (rel n (n + 1) (S.rest m.f.toNat) m.f.toNat, 0) else (S, 7) := by
  unfold stepQ
  rw [if_neg (by omega), if_neg (by omega), if_pos h]
theorem stepQ_to {n : Nat} {S : QS} {m : Mv} (h : m.k = 1 ∨ m.k = 2) (h2 : 0 ≤ m.f ∧ m.f < n) (h3 : ¬ (0 ≤ m.t ∧ m.t < n) ∨ m.f = m.t) : stepQ n S m = (S, 2) := by
  unfold stepQ
  rw [if_neg (by omega), if_neg (by omega), if_neg (by omega), if_pos h3]
theorem stepQ_send {n : Nat} {S : QS} {m : Mv} (h : m.k = 1) (h2 : 0 ≤ m.f ∧ m.f < n) (h3 : ¬ (¬ (0 ≤ m.t ∧ m.t < n) ∨ m.f = m.t)) : stepQ n S m = if S.act m.f.toNat = true then (S.send m.f.toNat m.t.toNat, 0) else (S, 7) := by
  unfold stepQ
  rw [if_neg (by omega), if_neg (by omega), if_neg (by omega), if_neg h3, if_pos h]
theorem stepQ_take {n : Nat} {S : QS} {m : Mv} (h : m.k = 2) (h2 : 0 ≤ m.f ∧ m.f < n) (h3 : ¬ (¬ (0 ≤ m.t ∧ m.t < n) ∨ m.f = m.t)) : stepQ n S m = if S.tr m.f.toNat m.t.toNat = 0 then (S, 5) else (S.take n m.f.toNat m.t.toNat, 0) := by
  unfold stepQ
  rw [if_neg (by omega), if_neg (by omega), if_neg (by omega), if_neg h3, if_neg (by omega)]

theorem rest_all (w : World) (B s P M n c : Nat) (S : QS) (hS : SysQ w B s P M n c S (S.exp n)) (hO : QOk n S) (i : Nat) (hi : i < n) (hn : n ≤ 6) (htr : ∀ a b, S.tr a b ≤ 900) (R : QS × Int) (hR : R = if S.act i = true then (rel n (n + 1) (S.rest i) i, 0) else (S, 7)) :
    Calls Try.prog 21 #[.pointer (some ⟨s, 0, none⟩), .int .i64 (i : Int)] w (MovRes B s P M n c w R.1 R.2) := by
  by_cases e : S.act i = true
  · rw [if_pos e] at hR
    subst hR
    exact rest_yes w B s P M n c S hS hO i hi hn e htr
  · rw [if_neg e] at hR
    subst hR
    exact rest_no w B s P M n c S hS i hi hn (by simpa using e)
theorem send_all (w : World) (B s P M n c : Nat) (S : QS) (hS : SysQ w B s P M n c S (S.exp n)) (i j : Nat) (hi : i < n) (hj : j < n) (hn : n ≤ 6) (hc : c ≤ 100) (htr : ∀ a b, S.tr a b ≤ 900) (R : QS × Int) (hR : R = if S.act i = true then (S.send i j, 0) else (S, 7)) :
    Calls Try.prog 22 #[.pointer (some ⟨s, 0, none⟩), .agg #[.int .i64 (i : Int), .int .i64 (j : Int)]] w (MovRes B s P M n c w R.1 R.2) := by
  by_cases e : S.act i = true
  · rw [if_pos e] at hR
    subst hR
    exact send_yes w B s P M n c S hS i j hi hj hn hc e htr
  · rw [if_neg e] at hR
    subst hR
    exact send_no w B s P M n c S hS i j hi hn (by simpa using e)
theorem take_all (w : World) (B s P M n c : Nat) (S : QS) (hS : SysQ w B s P M n c S (S.exp n)) (hO : QOk n S) (i j : Nat) (hi : i < n) (hj : j < n) (hn : n ≤ 6) (hc : c ≤ 100) (htr : ∀ a b, S.tr a b ≤ 900) (R : QS × Int) (hR : R = if S.tr i j = 0 then (S, 5) else (S.take n i j, 0)) :
    Calls Try.prog 23 #[.pointer (some ⟨s, 0, none⟩), .agg #[.int .i64 (i : Int), .int .i64 (j : Int)]] w (MovRes B s P M n c w R.1 R.2) := by
  by_cases e : S.tr i j = 0
  · rw [if_pos e] at hR
    subst hR
    exact take_no w B s P M n c S hS i j hi hj hn e
  · rw [if_neg e] at hR
    subst hR
    exact take_yes w B s P M n c S hS hO i j hi hj hn hc e htr

set_option maxHeartbeats 4000000 in
theorem execute_any (w : World) (B s P M n c : Nat) (S : QS) (hS : SysQ w B s P M n c S (S.exp n)) (hO : QOk n S) (m : Mv) (hm : MvFits m) (hn : n ≤ 6) (hc : c ≤ 100) (htr : ∀ a b, S.tr a b ≤ 900) :
    Calls Try.prog 12 #[.pointer (some ⟨s, 0, none⟩), mvVal m] w (MovRes B s P M n c w (stepQ n S m).1 (stepQ n S m).2) := by
  have hA := hS.alloc (.cells #[.int .i64 m.k, .int .i64 m.f, .int .i64 m.t, .int .i64 m.v] 39)
  have hKa := Lib.hid ((KQ.refl B P M w).alloc hS.sz (.cells #[.int .i64 m.k, .int .i64 m.f, .int .i64 m.t, .int .i64 m.v] 39))
  have hAc := Lib.hid (hA.mono (Nat.le_succ c))
  obtain ⟨s0, s1⟩ := hA.cells
  have hAH := Lib.hid hA
  have hOH := Lib.hid hO
  have htrH := Lib.hid htr
  have hmk := Lib.hid (stepQ_kind (n := n) (S := S) (m := m))
  have hmf := Lib.hid (stepQ_from (n := n) (S := S) (m := m))
  have hmr := Lib.hid (stepQ_rest (n := n) (S := S) (m := m))
  have hmt := Lib.hid (stepQ_to (n := n) (S := S) (m := m))
  have hms := Lib.hid (stepQ_send (n := n) (S := S) (m := m))
  have hmg := Lib.hid (stepQ_take (n := n) (S := S) (m := m))
  have hHas := Lib.hid (fun (x : Int) (C : Bool) (hC : C = true ↔ (0 ≤ x ∧ x < n)) => has_any _ s n P x s0 C hC)
  clear hS hA hO htr s1
  generalize hst : stepQ n S m = R at *
  clear hst
  obtain ⟨k, f, t, v⟩ := m
  simp only at *
  obtain ⟨⟨k1, k2⟩, ⟨f1, f2⟩, ⟨t1, t2⟩, ⟨v1, v2⟩⟩ := hm
  simp only at k1 k2 f1 f2 t1 t2 v1 v2
  unfold mvVal
  simp only
  by_cases hk1 : k < 1
  · have hR := Lib.hid (hmk.out (.inl hk1))
    clear hmk hmf hmr hmt hms hmg
    go_enter Try.func12, Try.ntmps12
    go_wp2_with fail
    go_ret
    exact ⟨by rw [hR.out]; rfl, by rw [hR.out]; exact hAc.out, hKa.out⟩
  by_cases hk3 : 3 < k
  · have hR := Lib.hid (hmk.out (.inr hk3))
    clear hmk hmf hmr hmt hms hmg
    go_enter Try.func12, Try.ntmps12
    go_wp2_with fail
    go_ret
    exact ⟨by rw [hR.out]; rfl, by rw [hR.out]; exact hAc.out, hKa.out⟩
  by_cases hf : 0 ≤ f ∧ f < n
  · have hf1 := Lib.hid (hHas.out f true ⟨fun _ => hf, fun _ => rfl⟩)
    by_cases hk : k = 3
    · have hR := Lib.hid (hmr.out hk hf)
      subst hk
      obtain ⟨i, rfl⟩ : ∃ i : Nat, f = (i : Int) := ⟨f.toNat, by omega⟩
      rw [Int.toNat_natCast] at hR
      have hcall := Lib.hid (rest_all _ B s P M n c S hAH.out hOH.out i (by omega) hn htrH.out R hR.out)
      clear hmk hmf hmr hmt hms hmg hHas hR
      go_enter Try.func12, Try.ntmps12
      go_wp2_with fail
      refine hf1.out.mono ?_
      rintro e w1 ⟨rfl, rfl⟩
      go_wp2_with fail
      refine hcall.out.mono ?_
      rintro e w2 ⟨rfl, hS2, hK2⟩
      have hS2H := Lib.hid hS2
      clear hS2
      go_wp2_with fail
      go_ret
      exact ⟨rfl, hS2H.out, hKa.out.trans hK2⟩
    · have e3 : (k == 3) = false := by simpa using hk
      have hk12 : k = 1 ∨ k = 2 := by omega
      by_cases ht : 0 ≤ t ∧ t < n
      · have ht1 := Lib.hid (hHas.out t true ⟨fun _ => ht, fun _ => rfl⟩)
        by_cases hft : f = t
        · have hR := Lib.hid (hmt.out hk12 hf (.inr hft))
          have e4 : (f == t) = true := by simp [hft]
          have hftH := Lib.hid hft
          clear hmk hmf hmr hmt hms hmg hHas hft hk12 hk
          go_enter Try.func12, Try.ntmps12
          go_wp2_with fail
          refine hf1.out.mono ?_
          rintro e w1 ⟨rfl, rfl⟩
          go_wp2_with fail
          refine ht1.out.mono ?_
          rintro e w1 ⟨rfl, rfl⟩
          go_wp2_with fail
          go_ret
          exact ⟨by rw [hR.out]; rfl, by rw [hR.out]; exact hAc.out, hKa.out⟩
        · have e4 : (f == t) = false := by simpa using hft
          have hgood : ¬ (¬ (0 ≤ t ∧ t < n) ∨ f = t) := by omega
          obtain ⟨i, rfl⟩ : ∃ i : Nat, f = (i : Int) := ⟨f.toNat, by omega⟩
          obtain ⟨j, rfl⟩ : ∃ j : Nat, t = (j : Int) := ⟨t.toNat, by omega⟩
          have hAb := Lib.hid (hAH.out.alloc (.cells #[.int .i64 (i : Int), .int .i64 (j : Int)] 59))
          have hKb := Lib.hid (hKa.out.alloc hAH.out.sz (.cells #[.int .i64 (i : Int), .int .i64 (j : Int)] 59))
          by_cases hk1' : k = 1
          · subst hk1'
            have hR := Lib.hid (hms.out rfl hf hgood)
            rw [Int.toNat_natCast, Int.toNat_natCast] at hR
            have hcall := Lib.hid (send_all _ B s P M n c S hAb.out i j (by omega) (by omega) hn hc htrH.out R hR.out)
            clear hmk hmf hmr hmt hms hmg hHas hR hft hk12 hk hgood
            go_enter Try.func12, Try.ntmps12
            go_wp2_with fail
            refine hf1.out.mono ?_
            rintro e w1 ⟨rfl, rfl⟩
            go_wp2_with fail
            refine ht1.out.mono ?_
            rintro e w1 ⟨rfl, rfl⟩
            go_wp2_with fail
            refine hcall.out.mono ?_
            rintro e w2 ⟨rfl, hS2, hK2⟩
            have hS2H := Lib.hid hS2
            clear hS2
            go_wp2_with fail
            go_ret
            exact ⟨rfl, hS2H.out, hKb.out.trans hK2⟩
          · have hk2' : k = 2 := by omega
            subst hk2'
            have hR := Lib.hid (hmg.out rfl hf hgood)
            rw [Int.toNat_natCast, Int.toNat_natCast] at hR
            have hcall := Lib.hid (take_all _ B s P M n c S hAb.out hOH.out i j (by omega) (by omega) hn hc htrH.out R hR.out)
            clear hmk hmf hmr hmt hms hmg hHas hR hft hk12 hk hgood
            go_enter Try.func12, Try.ntmps12
            go_wp2_with fail
            refine hf1.out.mono ?_
            rintro e w1 ⟨rfl, rfl⟩
            go_wp2_with fail
            refine ht1.out.mono ?_
            rintro e w1 ⟨rfl, rfl⟩
            go_wp2_with fail
            refine hcall.out.mono ?_
            rintro e w2 ⟨rfl, hS2, hK2⟩
            have hS2H := Lib.hid hS2
            clear hS2
            go_wp2_with fail
            go_ret
            exact ⟨rfl, hS2H.out, hKb.out.trans hK2⟩
      · have ht1 := Lib.hid (hHas.out t false ⟨(nomatch ·), fun h => absurd h ht⟩)
        have hR := Lib.hid (hmt.out hk12 hf (.inl ht))
        have htH := Lib.hid ht
        have hfH := Lib.hid hf
        clear hmk hmf hmr hmt hms hmg hHas ht hk12 hk hf
        go_enter Try.func12, Try.ntmps12
        go_wp2_with fail
        refine hf1.out.mono ?_
        rintro e w1 ⟨rfl, rfl⟩
        go_wp2_with fail
        refine ht1.out.mono ?_
        rintro e w1 ⟨rfl, rfl⟩
        go_wp2_with fail
        go_ret
        exact ⟨by rw [hR.out]; rfl, by rw [hR.out]; exact hAc.out, hKa.out⟩
  · have hf1 := Lib.hid (hHas.out f false ⟨(nomatch ·), fun h => absurd h hf⟩)
    have hR := Lib.hid (hmf.out (by omega) hf)
    have hfH := Lib.hid hf
    clear hmk hmf hmr hmt hms hmg hHas hf
    go_enter Try.func12, Try.ntmps12
    go_wp2_with fail
    refine hf1.out.mono ?_
    rintro e w1 ⟨rfl, rfl⟩
    go_wp2_with fail
    go_ret
    exact ⟨by rw [hR.out]; rfl, by rw [hR.out]; exact hAc.out, hKa.out⟩

#print axioms execute_any
end Go.Proofs.Ytichcahlokjblaa
