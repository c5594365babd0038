/-
  The contract of (*system).execute of package turn.
-/
import Derived.Test.YthnmppajakdcaaaTco
import Derived.Test.YthnmppajakdcaaaMov
namespace Go.Proofs.Ythnmppajakdcaaa
open Go.RowKit Go.Maps
set_option linter.unusedVariables false

theorem stepT_kind {n : Nat} {S : TS} {m : Mv} (h : m.k < 1 ∨ 3 < m.k) : stepT n S m = (S, 6) := by unfold stepT; rw [if_pos h]
theorem stepT_from {n : Nat} {S : TS} {m : Mv} (h : ¬ (m.k < 1 ∨ 3 < m.k)) (h2 : ¬ (0 ≤ m.f ∧ m.f < n)) : stepT n S m = (S, 2) := by unfold stepT; rw [if_neg h, if_pos h2]
theorem stepT_want {n : Nat} {S : TS} {m : Mv} (h : m.k = 1) (h2 : 0 ≤ m.f ∧ m.f < n) : stepT n S m = if S.req m.f.toNat = true ∨ S.ins m.f.toNat = true then (S, 7) else (S.request n m.f.toNat, 0) := by
  unfold stepT
  rw [if_neg (by omega), if_neg (by omega), if_pos h]
theorem stepT_leave {n : Nat} {S : TS} {m : Mv} (h : m.k = 3) (h2 : 0 ≤ m.f ∧ m.f < n) : stepT n S m = if S.ins m.f.toNat = true then (S.leave n m.f.toNat, 0) else (S, 7) := by
  unfold stepT
  rw [if_neg (by omega), if_neg (by omega), if_neg (by omega), if_pos h]
theorem stepT_to {n : Nat} {S : TS} {m : Mv} (h : m.k = 2) (h2 : 0 ≤ m.f ∧ m.f < n) (h3 : ¬ (0 ≤ m.t ∧ m.t < n) ∨ m.f = m.t) : stepT n S m = (S, 2) := by
  unfold stepT
  rw [if_neg (by omega), if_neg (by omega), if_neg (by omega), if_neg (by omega), if_pos h3]
theorem stepT_come {n : Nat} {S : TS} {m : Mv} (h : m.k = 2) (h2 : 0 ≤ m.f ∧ m.f < n) (h3 : ¬ (¬ (0 ≤ m.t ∧ m.t < n) ∨ m.f = m.t)) : stepT n S m = if S.q m.f.toNat m.t.toNat = [] then (S, 5) else (S.come m.f.toNat m.t.toNat, 0) := by
  unfold stepT
  rw [if_neg (by omega), if_neg (by omega), if_neg (by omega), if_neg (by omega), if_neg h3]

/-- What a walk wants of the state. -/
structure OkT (n : Nat) (S : TS) : Prop where
  inv : TInv n S
  clk : ∀ i, S.clk i ≤ 1000
theorem OkT.len {n : Nat} {S : TS} (h : OkT n S) : ∀ a b, (S.q a b).length ≤ 900 := fun a b => Nat.le_trans (h.inv.len_le a b) (by omega)

theorem request_all (w : World) (B s P M n c : Nat) (D : Nat → Nat) (S : TS) (hS : SysT w B s P M n c D S) (hO : OkT n S) (i : Nat) (hi : i < n) (hn : n ≤ 6) (hc : c ≤ 80000) (R : TS × Int) (hR : R = if S.req i = true ∨ S.ins i = true then (S, 7) else (S.request n i, 0)) :
    Calls Try.prog 27 #[.pointer (some ⟨s, 0, none⟩), .int .i64 (i : Int)] w (MovT B s P M n c D w R.1 R.2) := by
  by_cases e : S.req i = true ∨ S.ins i = true
  · rw [if_pos e] at hR
    subst hR
    exact request_no w B s P M n c D S hS i hi hn e
  · rw [if_neg e] at hR
    subst hR
    exact request_yes w B s P M n c D S hS i hi hn (by omega) (by simpa using fun h => e (.inl h)) (by simpa using fun h => e (.inr h)) ⟨hO.inv.clk0 i, hO.clk i⟩ hO.len
theorem leave_all (w : World) (B s P M n c : Nat) (D : Nat → Nat) (S : TS) (hS : SysT w B s P M n c D S) (hO : OkT n S) (i : Nat) (hi : i < n) (hn : n ≤ 6) (hc : c ≤ 80000) (R : TS × Int) (hR : R = if S.ins i = true then (S.leave n i, 0) else (S, 7)) :
    Calls Try.prog 28 #[.pointer (some ⟨s, 0, none⟩), .int .i64 (i : Int)] w (MovT B s P M n c D w R.1 R.2) := by
  by_cases e : S.ins i = true
  · rw [if_pos e] at hR
    subst hR
    exact leave_yes w B s P M n c D S hS i hi hn (by omega) e hO.len
  · rw [if_neg e] at hR
    subst hR
    exact leave_no w B s P M n c D S hS i hi hn (by simpa using e)
theorem come_all (w : World) (B s P M n c : Nat) (D : Nat → Nat) (S : TS) (hS : SysT w B s P M n c D S) (hO : OkT n S) (i j : Nat) (hi : i < n) (hj : j < n) (hn : n ≤ 6) (hc : c ≤ 80000) (R : TS × Int) (hR : R = if S.q i j = [] then (S, 5) else (S.come i j, 0)) :
    Calls Try.prog 29 #[.pointer (some ⟨s, 0, none⟩), .int .i64 (i : Int), .int .i64 (j : Int)] w (MovT B s P M n c D w R.1 R.2) := by
  cases e : S.q i j with
  | nil =>
    rw [if_pos e] at hR
    subst hR
    exact come_no w B s P M n c D S hS i j hi hj hn e
  | cons x r =>
    rw [if_neg (by rw [e]; simp)] at hR
    subst hR
    have hcm : S.come i j = if x = 0 then ((S.pop i j).less j).enter j else (S.pop i j).answer j i x := by
      unfold TS.come
      rw [e]; rfl
    rw [hcm]
    by_cases hx : x = 0
    · rw [if_pos hx]
      subst hx
      have hm := TInvX.mis_le hO.inv j
      exact come_reply w B s P M n c D S hS i j hi hj hn hc r e ⟨hm.1, by omega⟩ hO.len
    · rw [if_neg hx]
      obtain ⟨_, h1, h2⟩ := hO.inv.asked e hx
      have h3 := hO.inv.num0 i (.inl h2)
      have h4 := hO.inv.num1 i
      have h5 := hO.clk i
      exact come_asked w B s P M n c D S hS i j hi hj hn hc x r e hx ⟨by omega, by omega⟩ ⟨hO.inv.clk0 j, hO.clk j⟩ hO.len

set_option maxHeartbeats 4000000 in
theorem execute_any (w : World) (B s P M n c : Nat) (D : Nat → Nat) (S : TS) (hS : SysT w B s P M n c D S) (hO : OkT n S) (m : Mv) (hm : MvFits m) (hn : n ≤ 6) (hc : c ≤ 80000) :
    Calls Try.prog 15 #[.pointer (some ⟨s, 0, none⟩), mvVal m] w (MovT B s P M n c D w (stepT n S m).1 (stepT n S m).2) := by
  have hA := hS.alloc (.cells #[.int .i64 m.k, .int .i64 m.f, .int .i64 m.t, .int .i64 m.v] 38)
  have hKa := Lib.hid ((BlT.refl B w).alloc hS.sz (.cells #[.int .i64 m.k, .int .i64 m.f, .int .i64 m.t, .int .i64 m.v] 38))
  have hAc := Lib.hid (hA.mono (show c ≤ c + 7 by omega))
  have hAH := Lib.hid hA
  obtain ⟨f0, hAA⟩ := hA
  obtain ⟨s0, s1⟩ := hAA.cells
  have hOH := Lib.hid hO
  have hmk := Lib.hid (stepT_kind (n := n) (S := S) (m := m))
  have hmf := Lib.hid (stepT_from (n := n) (S := S) (m := m))
  have hmw := Lib.hid (stepT_want (n := n) (S := S) (m := m))
  have hml := Lib.hid (stepT_leave (n := n) (S := S) (m := m))
  have hmt := Lib.hid (stepT_to (n := n) (S := S) (m := m))
  have hmg := Lib.hid (stepT_come (n := n) (S := S) (m := m))
  have hHas := Lib.hid (fun (x : Int) (C : Bool) (hC : C = true ↔ (0 ≤ x ∧ x < n)) => has_any _ s n P x s0 C hC)
  clear hS hAA hO s1
  generalize hst : stepT n S m = R at *
  clear hst
  obtain ⟨k, f, t, v⟩ := m
  simp only at *
  obtain ⟨⟨k1, k2⟩, ⟨f1, f2⟩, ⟨t1, t2⟩, ⟨v1, v2⟩⟩ := hm
  simp only at k1 k2 f1 f2 t1 t2 v1 v2
  unfold mvVal
  simp only
  by_cases hk1 : k < 1
  · have hR := Lib.hid (hmk.out (.inl hk1))
    clear hmk hmf hmw hml hmt hmg
    go_enter Try.func15, Try.ntmps15
    go_wp2_with fail
    go_ret
    exact ⟨by rw [hR.out]; rfl, by rw [hR.out]; exact hAc.out, hKa.out⟩
  by_cases hk3 : 3 < k
  · have hR := Lib.hid (hmk.out (.inr hk3))
    clear hmk hmf hmw hml hmt hmg
    go_enter Try.func15, Try.ntmps15
    go_wp2_with fail
    go_ret
    exact ⟨by rw [hR.out]; rfl, by rw [hR.out]; exact hAc.out, hKa.out⟩
  by_cases hf : 0 ≤ f ∧ f < n
  · have hf1 := Lib.hid (hHas.out f true ⟨fun _ => hf, fun _ => rfl⟩)
    by_cases hk : k = 3
    · have hR := Lib.hid (hml.out hk hf)
      subst hk
      obtain ⟨i, rfl⟩ : ∃ i : Nat, f = (i : Int) := ⟨f.toNat, by omega⟩
      rw [Int.toNat_natCast] at hR
      have hcall := Lib.hid (leave_all _ B s P M n c D S hAH.out hOH.out i (by omega) hn hc R hR.out)
      clear hmk hmf hmw hml hmt hmg hHas hR
      go_enter Try.func15, Try.ntmps15
      go_wp2_with fail
      refine hf1.out.mono ?_
      rintro e w1 ⟨rfl, rfl⟩
      go_wp2_with fail
      refine hcall.out.mono ?_
      rintro e w2 ⟨rfl, hS2, hK2⟩
      have hS2H := Lib.hid hS2
      clear hS2
      go_wp2_with fail
      go_ret
      exact ⟨rfl, hS2H.out, hKa.out.trans hK2⟩
    · have e3 : (k == 3) = false := by simpa using hk
      by_cases hkw : k = 1
      · have hR := Lib.hid (hmw.out hkw hf)
        subst hkw
        obtain ⟨i, rfl⟩ : ∃ i : Nat, f = (i : Int) := ⟨f.toNat, by omega⟩
        rw [Int.toNat_natCast] at hR
        have hcall := Lib.hid (request_all _ B s P M n c D S hAH.out hOH.out i (by omega) hn hc R hR.out)
        clear hmk hmf hmw hml hmt hmg hHas hR
        go_enter Try.func15, Try.ntmps15
        go_wp2_with fail
        refine hf1.out.mono ?_
        rintro e w1 ⟨rfl, rfl⟩
        go_wp2_with fail
        refine hcall.out.mono ?_
        rintro e w2 ⟨rfl, hS2, hK2⟩
        have hS2H := Lib.hid hS2
        clear hS2
        go_wp2_with fail
        go_ret
        exact ⟨rfl, hS2H.out, hKa.out.trans hK2⟩
      have hk2' : k = 2 := by omega
      by_cases ht : 0 ≤ t ∧ t < n
      · have ht1 := Lib.hid (hHas.out t true ⟨fun _ => ht, fun _ => rfl⟩)
        by_cases hft : f = t
        · have hR := Lib.hid (hmt.out hk2' hf (.inr hft))
          have e4 : (f == t) = true := by simp [hft]
          subst hk2'
          clear hmk hmf hmw hml hmt hmg hHas hft hk hkw e3
          go_enter Try.func15, Try.ntmps15
          go_wp2_with fail
          refine hf1.out.mono ?_
          rintro e w1 ⟨rfl, rfl⟩
          go_wp2_with fail
          refine ht1.out.mono ?_
          rintro e w1 ⟨rfl, rfl⟩
          go_wp2_with fail
          go_ret
          exact ⟨by rw [hR.out]; rfl, by rw [hR.out]; exact hAc.out, hKa.out⟩
        · have e4 : (f == t) = false := by simpa using hft
          have hgood : ¬ (¬ (0 ≤ t ∧ t < n) ∨ f = t) := by omega
          have hR := Lib.hid (hmg.out hk2' hf hgood)
          subst hk2'
          obtain ⟨i, rfl⟩ : ∃ i : Nat, f = (i : Int) := ⟨f.toNat, by omega⟩
          obtain ⟨j, rfl⟩ : ∃ j : Nat, t = (j : Int) := ⟨t.toNat, by omega⟩
          rw [Int.toNat_natCast, Int.toNat_natCast] at hR
          have hcall := Lib.hid (come_all _ B s P M n c D S hAH.out hOH.out i j (by omega) (by omega) hn hc R hR.out)
          clear hmk hmf hmw hml hmt hmg hHas hR hft hk hkw e3 hgood
          go_enter Try.func15, Try.ntmps15
          go_wp2_with fail
          refine hf1.out.mono ?_
          rintro e w1 ⟨rfl, rfl⟩
          go_wp2_with fail
          refine ht1.out.mono ?_
          rintro e w1 ⟨rfl, rfl⟩
          go_wp2_with fail
          refine hcall.out.mono ?_
          rintro e w2 ⟨rfl, hS2, hK2⟩
          have hS2H := Lib.hid hS2
          clear hS2
          go_wp2_with fail
          go_ret
          exact ⟨rfl, hS2H.out, hKa.out.trans hK2⟩
      · have ht1 := Lib.hid (hHas.out t false ⟨(nomatch ·), fun h => absurd h ht⟩)
        have hR := Lib.hid (hmt.out hk2' hf (.inl ht))
        have htH := Lib.hid ht
        have hfH := Lib.hid hf
        subst hk2'
        clear hmk hmf hmw hml hmt hmg hHas ht hk hkw hf e3
        go_enter Try.func15, Try.ntmps15
        go_wp2_with fail
        refine hf1.out.mono ?_
        rintro e w1 ⟨rfl, rfl⟩
        go_wp2_with fail
        refine ht1.out.mono ?_
        rintro e w1 ⟨rfl, rfl⟩
        go_wp2_with fail
        go_ret
        exact ⟨by rw [hR.out]; rfl, by rw [hR.out]; exact hAc.out, hKa.out⟩
  · have hf1 := Lib.hid (hHas.out f false ⟨(nomatch ·), fun h => absurd h hf⟩)
    have hR := Lib.hid (hmf.out (by omega) hf)
    have hfH := Lib.hid hf
    clear hmk hmf hmw hml hmt hmg hHas hf
    go_enter Try.func15, Try.ntmps15
    go_wp2_with fail
    refine hf1.out.mono ?_
    rintro e w1 ⟨rfl, rfl⟩
    go_wp2_with fail
    go_ret
    exact ⟨by rw [hR.out]; rfl, by rw [hR.out]; exact hAc.out, hKa.out⟩

#print axioms execute_any
end Go.Proofs.Ythnmppajakdcaaa
