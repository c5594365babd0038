/-
  The contract of (*system).execute of package snap.
-/
import Derived.Test.YtebighmddimnkaaTak
import Derived.Test.YtebighmddimnkaaMov
namespace Go.Proofs.Ytebighmddimnkaa
open Go.RowKit Go.Maps

def ExeRes (B s n P M : Nat) (ch : Nat → Nat → Nat) (w : World) (T : St) (c : Int) (e : Ending) (w' : World) : Prop := e = .returned (.int .i64 c) ∧ Sys w' B s n P M ch T ∧ Bl B w w'

theorem step_kind {n : Nat} {S : St} {m : Mv} (h : m.k < 1 ∨ 3 < m.k) : stepS n S m = (S, 6) := by unfold stepS; rw [if_pos h]
theorem step_mark {n : Nat} {S : St} {m : Mv} (h : m.k = 3) : stepS n S m = if ¬ (0 ≤ m.f ∧ m.f < n) then (S, 2) else if S.rc m.f.toNat = true then (S, 7) else (S.record n m.f.toNat, 0) := by
  unfold stepS
  rw [if_neg (by omega), if_pos h]
theorem step_arg {n : Nat} {S : St} {m : Mv} (h : m.k = 1 ∨ m.k = 2) (h2 : ¬ (0 ≤ m.f ∧ m.f < n) ∨ ¬ (0 ≤ m.t ∧ m.t < n) ∨ m.f = m.t) : stepS n S m = (S, 2) := by
  unfold stepS
  rw [if_neg (by omega), if_neg (by omega), if_pos h2]
theorem step_send {n : Nat} {S : St} {m : Mv} (h : m.k = 1) (h2 : ¬ (¬ (0 ≤ m.f ∧ m.f < n) ∨ ¬ (0 ≤ m.t ∧ m.t < n) ∨ m.f = m.t)) : stepS n S m = if m.v < 1 ∨ S.hv m.f.toNat < m.v then (S, 4) else (S.send m.f.toNat m.t.toNat m.v, 0) := by
  unfold stepS
  rw [if_neg (by omega), if_neg (by omega), if_neg h2, if_pos h]
theorem step_take {n : Nat} {S : St} {m : Mv} (h : m.k = 2) (h2 : ¬ (¬ (0 ≤ m.f ∧ m.f < n) ∨ ¬ (0 ≤ m.t ∧ m.t < n) ∨ m.f = m.t)) : stepS n S m = if S.q m.f.toNat m.t.toNat = [] then (S, 5) else (S.take n m.f.toNat m.t.toNat, 0) := by
  unfold stepS
  rw [if_neg (by omega), if_neg (by omega), if_neg h2, if_neg (by omega)]

theorem take_zero {n : Nat} {S : St} {i j : Nat} {r : List Int} (hq : S.q i j = 0 :: r) : S.take n i j = ((S.pop i j).recIf n j).close i j := by
  unfold St.take
  rw [if_pos (by rw [hq]; rfl)]
theorem take_some {n : Nat} {S : St} {i j : Nat} {x : Int} {r : List Int} (hq : S.q i j = x :: r) (hx : x ≠ 0) : S.take n i j = (S.pop i j).got i j x := by
  have e : (S.q i j).headD 0 = x := by rw [hq]; rfl
  unfold St.take
  rw [if_neg (by rw [e]; exact hx), e]
/-- take, whatever there is. -/
theorem take_any (w : World) (B s n P M : Nat) (ch : Nat → Nat → Nat) (S : St) (hS : Sys w B s n P M ch S) (i j : Nat) (hc : Chl n i j) (hI : SInv n S) (hn : n ≤ 6) (hl : ∀ a b, (S.q a b).length ≤ 900) (T : St) (c : Int) (hT : (T, c) = if S.q i j = [] then (S, 5) else (S.take n i j, 0)) :
    Calls Try.prog 26 #[.pointer (some ⟨s, 0, none⟩), .int .i64 (i : Int), .int .i64 (j : Int)] w (ExeRes B s n P M ch w T c) := by
  cases hq : S.q i j with
  | nil =>
    rw [if_pos hq] at hT
    obtain ⟨rfl, rfl⟩ := Prod.mk.inj hT
    refine (take_none w B s n P M ch _ hS i j hc hq).mono ?_
    rintro e w' ⟨rfl, rfl⟩
    exact ⟨rfl, hS, Bl.refl _ _⟩
  | cons x r =>
    rw [if_neg (by rw [hq]; simp)] at hT
    obtain ⟨rfl, rfl⟩ := Prod.mk.inj hT
    by_cases hx : x = 0
    · subst hx
      rw [take_zero hq]
      exact take_mark w B s n P M ch S hS i j hc r hq hn hl
    · rw [take_some hq hx]
      have h1 := hI.gainLe hc.1 hc.2.1 hq
      have h0 := hI.q0 i j x (by rw [hq]; simp)
      have h2 := hI.hv0 j
      exact take_amount w B s n P M ch S hS i j hc x r hq hx hl (by omega) (by omega) (fun hcl => by
        have h3 := hI.noteLe hc.1 hc.2.1 hq hx hcl
        have h4 := hI.wy0 i j
        omega)

set_option maxHeartbeats 4000000 in
theorem execute_any (w : World) (B s n P M : Nat) (ch : Nat → Nat → Nat) (S : St) (hS : Sys w B s n P M ch S) (m : Mv) (hm : MvFits m) (hI : SInv n S) (hn : n ≤ 6) (hl : ∀ a b, (S.q a b).length ≤ 900) :
    Calls Try.prog 15 #[.pointer (some ⟨s, 0, none⟩), mvVal m] w (ExeRes B s n P M ch w (stepS n S m).1 (stepS n S m).2) := by
  have hA1 := hS.alloc (.cells #[.int .i64 m.k, .int .i64 m.f, .int .i64 m.t, .int .i64 m.v] 39)
  have hsz : B ≤ w.heap.size := by obtain ⟨vs, h⟩ := hS; exact h.sz
  have hB1 := (Bl.refl B w).alloc hsz (.cells #[.int .i64 m.k, .int .i64 m.f, .int .i64 m.t, .int .i64 m.v] 39)
  have hIH := Lib.hid hI
  have hlH := Lib.hid hl
  obtain ⟨s0, s1⟩ : (w.alloc (.cells #[.int .i64 m.k, .int .i64 m.f, .int .i64 m.t, .int .i64 m.v] 39)).cell? ⟨s, 0, none⟩ = some (.slice (some ⟨P, 0, none⟩) n n) ∧ s < w.heap.size := by
    obtain ⟨vs, h⟩ := hS
    obtain ⟨vs1, h1⟩ := hA1
    exact ⟨h1.cells.1, h.sys.lt⟩
  have hmk := Lib.hid (step_kind (n := n) (S := S) (m := m))
  have hmm := Lib.hid (step_mark (n := n) (S := S) (m := m))
  have hma := Lib.hid (step_arg (n := n) (S := S) (m := m))
  have hms := Lib.hid (step_send (n := n) (S := S) (m := m))
  have hmt := Lib.hid (step_take (n := n) (S := S) (m := m))
  generalize hst : stepS n S m = R at *
  clear hst
  obtain ⟨k, f, t, v⟩ := m
  simp only at *
  obtain ⟨⟨k1, k2⟩, ⟨f1, f2⟩, ⟨t1, t2⟩, ⟨v1, v2⟩⟩ := hm
  simp only at k1 k2 f1 f2 t1 t2 v1 v2
  unfold mvVal
  simp only
  have hA1H := Lib.hid hA1
  clear hS hI hl hA1
  have hHas := fun (x : Int) (C : Bool) (hC : C = true ↔ (0 ≤ x ∧ x < n)) => has_any _ s n P x s0 C hC
  have hHasH := Lib.hid hHas
  clear hHas
  by_cases hk1 : k < 1
  · have hR := hmk.out (.inl hk1)
    clear hmk hmm hma hms hmt
    subst hR
    go_enter Try.func15, Try.ntmps15
    go_wp2_with fail
    go_ret
    exact ⟨rfl, hA1H.out, hB1⟩
  by_cases hk3 : 3 < k
  · have hR := hmk.out (.inr hk3)
    clear hmk hmm hma hms hmt
    subst hR
    go_enter Try.func15, Try.ntmps15
    go_wp2_with fail
    go_ret
    exact ⟨rfl, hA1H.out, hB1⟩
  by_cases hk : k = 3
  · have hR := hmm.out hk
    clear hmk hmm hma hms hmt hk1 hk3
    subst hk
    obtain ⟨T, c⟩ := R
    have hRH := Lib.hid hR
    clear hR
    go_enter Try.func15, Try.ntmps15
    go_wp2_with fail
    refine (mark_any _ B s n P M ch S hA1H.out f hn hlH.out T c hRH.out).mono ?_
    rintro e w2 ⟨rfl, hS2, hB2⟩
    have hB3 := hB1.trans hB2
    clear hB1 hB2
    go_wp2_with fail
    go_ret
    exact ⟨rfl, hS2, hB3⟩
  have hk12 : Hid (k = 1 ∨ k = 2) := by unfold Hid; omega
  have e3 : (k == 3) = false := by simp; omega
  by_cases hf : 0 ≤ f ∧ f < n
  · by_cases ht : 0 ≤ t ∧ t < n
    · by_cases hft : f = t
      · have hR := hma.out hk12.out (.inr (.inr hft))
        have e4 : (f == t) = true := by simp [hft]
        have hfH := Lib.hid hf
        have htH := Lib.hid ht
        clear hmk hmm hma hms hmt hf ht hft
        subst hR
        go_enter Try.func15, Try.ntmps15
        go_wp2_with fail
        refine (hHasH.out f true ⟨fun _ => hfH.out, fun _ => rfl⟩).mono ?_
        rintro e w1 ⟨rfl, rfl⟩
        go_wp2_with fail
        refine (hHasH.out t true ⟨fun _ => htH.out, fun _ => rfl⟩).mono ?_
        rintro e w1 ⟨rfl, rfl⟩
        go_wp2_with fail
        go_ret
        exact ⟨rfl, hA1H.out, hB1⟩
      · have e4 : (f == t) = false := by simp [hft]
        have hgood : ¬ (¬ (0 ≤ f ∧ f < n) ∨ ¬ (0 ≤ t ∧ t < n) ∨ f = t) := by omega
        have hfH := Lib.hid hf
        have htH := Lib.hid ht
        obtain ⟨i, rfl⟩ : ∃ i : Nat, f = (i : Int) := ⟨f.toNat, by omega⟩
        obtain ⟨j, rfl⟩ : ∃ j : Nat, t = (j : Int) := ⟨t.toNat, by omega⟩
        have hc : Hid (Chl n i j) := ⟨by omega, by omega, by omega⟩
        by_cases hk0 : k = 1
        · have hR := hms.out hk0 hgood
          rw [Int.toNat_natCast, Int.toNat_natCast] at hR
          clear hmk hmm hma hms hmt hf ht hft hgood
          subst hk0
          obtain ⟨T, c⟩ := R
          have hRH := Lib.hid hR
          clear hR
          go_enter Try.func15, Try.ntmps15
          go_wp2_with fail
          refine (hHasH.out (i : Int) true ⟨fun _ => hfH.out, fun _ => rfl⟩).mono ?_
          rintro e w1 ⟨rfl, rfl⟩
          go_wp2_with fail
          refine (hHasH.out (j : Int) true ⟨fun _ => htH.out, fun _ => rfl⟩).mono ?_
          rintro e w1 ⟨rfl, rfl⟩
          go_wp2_with fail
          refine (send_any _ B s n P M ch S hA1H.out i j hc.out v hlH.out (hIH.out.hv0 i) (Int.le_trans (hIH.out.hvLe hc.out.1) (by omega)) ⟨v1, v2⟩ T c hRH.out).mono ?_
          rintro e w2 ⟨rfl, hS2, hB2⟩
          have hB3 := hB1.trans hB2
          clear hB1 hB2
          go_wp2_with fail
          go_ret
          exact ⟨rfl, hS2, hB3⟩
        · have hk2' : k = 2 := by omega
          have hR := hmt.out hk2' hgood
          rw [Int.toNat_natCast, Int.toNat_natCast] at hR
          clear hmk hmm hma hms hmt hf ht hft hgood hk0
          subst hk2'
          obtain ⟨T, c⟩ := R
          have hRH := Lib.hid hR
          clear hR
          go_enter Try.func15, Try.ntmps15
          go_wp2_with fail
          refine (hHasH.out (i : Int) true ⟨fun _ => hfH.out, fun _ => rfl⟩).mono ?_
          rintro e w1 ⟨rfl, rfl⟩
          go_wp2_with fail
          refine (hHasH.out (j : Int) true ⟨fun _ => htH.out, fun _ => rfl⟩).mono ?_
          rintro e w1 ⟨rfl, rfl⟩
          go_wp2_with fail
          refine (take_any _ B s n P M ch S hA1H.out i j hc.out hIH.out hn hlH.out T c hRH.out).mono ?_
          rintro e w2 ⟨rfl, hS2, hB2⟩
          have hB3 := hB1.trans hB2
          clear hB1 hB2
          go_wp2_with fail
          go_ret
          exact ⟨rfl, hS2, hB3⟩
    · have hR := hma.out hk12.out (.inr (.inl ht))
      have hfH := Lib.hid hf
      have htH := Lib.hid ht
      clear hmk hmm hma hms hmt hf ht
      subst hR
      go_enter Try.func15, Try.ntmps15
      go_wp2_with fail
      refine (hHasH.out f true ⟨fun _ => hfH.out, fun _ => rfl⟩).mono ?_
      rintro e w1 ⟨rfl, rfl⟩
      go_wp2_with fail
      refine (hHasH.out t false ⟨fun h => absurd h (by decide), fun h => absurd h htH.out⟩).mono ?_
      rintro e w1 ⟨rfl, rfl⟩
      go_wp2_with fail
      go_ret
      exact ⟨rfl, hA1H.out, hB1⟩
  · have hR := hma.out hk12.out (.inl hf)
    have hfH := Lib.hid hf
    clear hmk hmm hma hms hmt hf
    subst hR
    go_enter Try.func15, Try.ntmps15
    go_wp2_with fail
    refine (hHasH.out f false ⟨fun h => absurd h (by decide), fun h => absurd h hfH.out⟩).mono ?_
    rintro e w1 ⟨rfl, rfl⟩
    go_wp2_with fail
    go_ret
    exact ⟨rfl, hA1H.out, hB1⟩

#print axioms execute_any
end Go.Proofs.Ytebighmddimnkaa
