/-
  The contracts of (*system).has, enter, precedes, request of package turn.
-/
import Derived.Test.YthnmppajakdcaaaTsd
namespace Go.Proofs.Ythnmppajakdcaaa
open Go.RowKit Go.Maps
set_option linter.unusedVariables false

/-- What a move comes to. -/
def MovT (B s P M n c : Nat) (D : Nat → Nat) (w : World) (T : TS) (cd : Int) (e : Ending) (w' : World) : Prop := e = .returned (.int .i64 cd) ∧ SysT w' B s P M n (c + 7) D T ∧ BlT B w w'

set_option maxHeartbeats 800000 in
theorem has_any (w : World) (s n P : Nat) (x : Int) (s0 : w.cell? ⟨s, 0, none⟩ = some (.slice (some ⟨P, 0, none⟩) n n)) (C : Bool) (hC : C = true ↔ (0 ≤ x ∧ x < n)) :
    Calls Try.prog 26 #[.pointer (some ⟨s, 0, none⟩), .int .i64 x] w fun e w' => e = .returned (.bool C) ∧ w = w' := by
  have hCH := Lib.hid hC
  clear hC
  by_cases h1 : 0 ≤ x
  · by_cases h2 : x < n
    · have : C = true := hCH.out.2 ⟨h1, h2⟩
      subst this
      clear hCH
      go_enter Try.func26, Try.ntmps26
      go_wp2_with fail
      go_ret
      exact ⟨rfl, rfl⟩
    · have : C = false := by
        cases C with
        | false => rfl
        | true => exact absurd (hCH.out.1 rfl).2 h2
      subst this
      clear hCH
      go_enter Try.func26, Try.ntmps26
      go_wp2_with fail
      go_ret
      exact ⟨rfl, rfl⟩
  · have : C = false := by
      cases C with
      | false => rfl
      | true => exact absurd (hCH.out.1 rfl).1 h1
    subst this
    clear hCH
    go_enter Try.func26, Try.ntmps26
    go_wp2_with fail
    go_ret
    exact ⟨rfl, rfl⟩

set_option maxHeartbeats 800000 in
theorem enter_any (w : World) (B s P M n c : Nat) (D : Nat → Nat) (S : TS) (hS : SysT w B s P M n c D S) (i : Nat) (hi : i < n) (hn : n ≤ 6) :
    Calls Try.prog 31 #[.pointer (some ⟨s, 0, none⟩), .int .i64 (i : Int)] w fun e w' => e = .returned (.tuple #[]) ∧ SysT w' B s P M n c D (S.enter i) ∧ BlT B w w' := by
  obtain ⟨f, hA⟩ := hS
  obtain ⟨s0, s1⟩ := hA.cells
  obtain ⟨p0, p1, p2, p3, p4, p5⟩ := hA.prc hi
  have hiI : (i : Int) < (n : Int) := by omega
  by_cases h0 : S.mis i = 0
  · have he : Hid (S.enter i = { S with req := up1 S.req i false, ins := up1 S.ins i true }) := if_pos h0
    have hA1 := hA.setReq hi false
    have hA2 := hA1.setIns hi true
    have hb := Lib.hid (hA1.blkP (hA.blkP (BlT.refl B w) (i * 6 + 1) (.bool false)) (i * 6 + 2) (.bool true))
    have f1 := hA.prs.frozen (i * 6 + 1)
    have f2 := hA.prs.frozen (i * 6 + 2)
    have hAH := Lib.hid hA2
    rw [h0] at p4
    clear hA hA1 hA2 h0
    go_enter Try.func31, Try.ntmps31
    go_wp2_with fail
    go_end0
    exact ⟨rfl, ⟨f, by rw [he.out]; exact hAH.out⟩, hb.out⟩
  · have he : Hid (S.enter i = S) := if_neg h0
    have h0b : (S.mis i == 0) = false := by simpa using h0
    have hAH := Lib.hid hA
    clear hA h0
    generalize S.mis i = x at *
    go_enter Try.func31, Try.ntmps31
    go_wp2_with fail
    go_end0
    exact ⟨rfl, ⟨f, by rw [he.out]; exact hAH.out⟩, BlT.refl _ _⟩

set_option maxHeartbeats 800000 in
theorem precedes_any (w : World) (B s P M n c : Nat) (D : Nat → Nat) (S : TS) (hS : SysT w B s P M n c D S) (i j : Nat) (hi : i < n) (hn : n ≤ 6) (x : Int) (C : Bool) (hC : C = (decide (S.num i < x) || (decide (S.num i = x) && decide (i < j)))) :
    Calls Try.prog 33 #[.pointer (some ⟨s, 0, none⟩), .int .i64 (i : Int), .int .i64 (j : Int), .int .i64 x] w fun e w' => e = .returned (.bool C) ∧ w = w' := by
  obtain ⟨f, hA⟩ := hS
  obtain ⟨s0, s1⟩ := hA.cells
  obtain ⟨p0, p1, p2, p3, p4, p5⟩ := hA.prc hi
  have hiI : (i : Int) < (n : Int) := by omega
  clear hA p0 p1 p2 p4 p5
  generalize S.num i = y at *
  by_cases h1 : y < x
  · have : C = true := by rw [hC]; simp [h1]
    subst this
    clear hC
    go_enter Try.func33, Try.ntmps33
    go_wp2_with fail
    go_ret
    exact ⟨rfl, rfl⟩
  · by_cases h2 : y = x
    · subst h2
      by_cases h3 : i < j
      · have h3I : (i : Int) < (j : Int) := by omega
        have : C = true := by rw [hC]; simp [h3]
        subst this
        clear hC
        go_enter Try.func33, Try.ntmps33
        go_wp2_with fail
        go_ret
        exact ⟨rfl, rfl⟩
      · have h3I : ¬ (i : Int) < (j : Int) := by omega
        have : C = false := by rw [hC]; simp [h3]
        subst this
        clear hC
        go_enter Try.func33, Try.ntmps33
        go_wp2_with fail
        go_ret
        exact ⟨rfl, rfl⟩
    · have h2b : (y == x) = false := by simpa using h2
      have : C = false := by rw [hC]; simp [h1, h2]
      subst this
      clear hC h2
      go_enter Try.func33, Try.ntmps33
      go_wp2_with fail
      go_ret
      exact ⟨rfl, rfl⟩

set_option maxHeartbeats 800000 in
theorem request_no (w : World) (B s P M n c : Nat) (D : Nat → Nat) (S : TS) (hS : SysT w B s P M n c D S) (i : Nat) (hi : i < n) (hn : n ≤ 6) (h : S.req i = true ∨ S.ins i = true) :
    Calls Try.prog 27 #[.pointer (some ⟨s, 0, none⟩), .int .i64 (i : Int)] w (MovT B s P M n c D w S 7) := by
  obtain ⟨f, hA⟩ := hS
  obtain ⟨s0, s1⟩ := hA.cells
  obtain ⟨p0, p1, p2, p3, p4, p5⟩ := hA.prc hi
  have hiI : (i : Int) < (n : Int) := by omega
  have hAH := Lib.hid (hA.mono (show c ≤ c + 7 by omega))
  clear hA p0 p3 p4 p5
  cases hr : S.req i with
  | true =>
    rw [hr] at p1
    clear hr h
    go_enter Try.func27, Try.ntmps27
    go_wp2_with fail
    go_ret
    exact ⟨rfl, ⟨f, hAH.out⟩, BlT.refl _ _⟩
  | false =>
    have hs : S.ins i = true := by
      rcases h with h | h
      · rw [hr] at h; cases h
      · exact h
    rw [hr] at p1
    rw [hs] at p2
    clear hr h hs
    go_enter Try.func27, Try.ntmps27
    go_wp2_with fail
    go_ret
    exact ⟨rfl, ⟨f, hAH.out⟩, BlT.refl _ _⟩

theorem asks_len (S : TS) (i : Nat) (x : Int) (m a b : Nat) : ((S.asks i x m).q a b).length ≤ (S.q a b).length + 1 := by
  simp only [TS.asks]
  split <;> simp
def AskRel (B s P M n c : Nat) (D : Nat → Nat) (S : TS) (w : World) (i : Nat) (x : Int) (m : Nat) (wr : World) : Prop := SysT wr B s P M n (c + m) D (S.asks i x m) ∧ BlT B w wr

set_option maxHeartbeats 4000000 in
theorem request_yes (w : World) (B s P M n c : Nat) (D : Nat → Nat) (S : TS) (hS : SysT w B s P M n c D S) (i : Nat) (hi : i < n) (hn : n ≤ 6) (hc : c ≤ 90000) (hr : S.req i = false) (hs : S.ins i = false) (hk : 0 ≤ S.clk i ∧ S.clk i ≤ 1000) (hl : ∀ a b, (S.q a b).length ≤ 900) :
    Calls Try.prog 27 #[.pointer (some ⟨s, 0, none⟩), .int .i64 (i : Int)] w (MovT B s P M n c D w (S.request n i) 0) := by
  obtain ⟨f, hA⟩ := hS
  obtain ⟨s0, s1⟩ := hA.cells
  obtain ⟨p0, p1, p2, p3, p4, p5⟩ := hA.prc hi
  rw [hr] at p1
  rw [hs] at p2
  have hiI : (i : Int) < (n : Int) := by omega
  obtain ⟨hk0, hk1⟩ := hk
  have f0 := hA.prs.frozen (i * 6)
  have f1 := hA.prs.frozen (i * 6 + 1)
  have f3 := hA.prs.frozen (i * 6 + 3)
  have f4 := hA.prs.frozen (i * 6 + 4)
  have hA1 := hA.setClk hi (S.clk i + 1)
  have hA2 := hA1.setNum hi (S.clk i + 1)
  have hA3 := hA2.setReq hi true
  have hA4 := hA3.setMis hi ((n : Int) - 1)
  have hb4 := Lib.hid (hA3.blkP (hA2.blkP (hA1.blkP (hA.blkP (BlT.refl B w) (i * 6) (.int .i64 (S.clk i + 1))) (i * 6 + 3) (.int .i64 (S.clk i + 1))) (i * 6 + 1) (.bool true)) (i * 6 + 4) (.int .i64 ((n : Int) - 1)))
  have hS4 : Hid (SysT ((((w.setCell ⟨P, i * 6, none⟩ (.int .i64 (S.clk i + 1))).setCell ⟨P, i * 6 + 3, none⟩ (.int .i64 (S.clk i + 1))).setCell ⟨P, i * 6 + 1, none⟩ (.bool true)).setCell ⟨P, i * 6 + 4, none⟩ (.int .i64 ((n : Int) - 1))) B s P M n c D (S.want n i)) := ⟨f, hA4.congr rfl rfl rfl rfl rfl rfl rfl⟩
  have hlH : Hid (∀ a b, ((S.want n i).q a b).length ≤ 900) := hl
  have hx : Hid ((S.want n i).num i = S.clk i + 1) := up1_same _ _ _
  have hreq : Hid (S.request n i = ((S.want n i).asks i (S.clk i + 1) n).enter i) := rfl
  have hsP : s ≠ P := by
    obtain ⟨xs, hP⟩ := hA.prs.row
    exact rowG_ne hA.sys hP (by decide)
  clear hA hA1 hA2 hA3 hA4 hl hr hs
  generalize S.clk i = x at *
  generalize hT : S.want n i = T at *
  clear hT
  go_enter Try.func27, Try.ntmps27
  go_wp2_with fail
  have hS4' := hS4.out
  have hB4' := hb4.out
  generalize (((w.setCell ⟨P, i * 6, none⟩ (.int .i64 (x + 1))).setCell ⟨P, i * 6 + 3, none⟩ (.int .i64 (x + 1))).setCell ⟨P, i * 6 + 1, none⟩ (.bool true)).setCell ⟨P, i * 6 + 4, none⟩ (.int .i64 ((n : Int) - 1)) = w4 at *
  have hini : Hid (AskRel B s P M n c D T w i (x + 1) 0 w4) := ⟨by rw [TS.asks_zero]; exact hS4', hB4'⟩
  clear hS4 hb4 hS4' hB4' s0 s1 p0 p1 p2 p3 p4 p5 f0 f1 f3 f4
  go_loopw [54] (fun t wr => ∃ m : Nat, m ≤ n ∧ t = .int .i64 m ∧ AskRel B s P M n c D T w i (x + 1) m wr) (fun t _ => n - (intOf t).toNat)
  case atStart => exact ⟨0, Nat.zero_le _, rfl, hini.out⟩
  case round =>
    clear hini
    obtain ⟨m, hm, rfl, hSm, hBm⟩ := hrel
    by_cases hlt : m < n
    · have hmI : (m : Int) < (n : Int) := by omega
      by_cases e : m = i
      · have v1 : ((m : Int) != (i : Int)) = false := by simp [e]
        have hnx : Hid (T.asks i (x + 1) (m + 1) = T.asks i (x + 1) m) := by unfold Hid; rw [e]; exact TS.asks_skip _ _ _
        have hSm2 := Lib.hid (hSm.mono (show c + m ≤ c + (m + 1) by omega))
        clear e hSm
        go_wp2_with fail
        go_roundw
        case rel => exact ⟨m + 1, by omega, by go_num, by rw [hnx.out]; exact hSm2.out, hBm⟩
        case measure => simp [intOf]; omega
      · have v1 : ((m : Int) != (i : Int)) = true := by simp; omega
        have hnx := Lib.hid (TS.asks_put T (x + 1) e)
        have hln : Hid (((T.asks i (x + 1) m).q i m).length ≤ 1000) := by
          have h1 := asks_len T i (x + 1) m i m
          have h2 := hlH.out i m
          unfold Hid
          omega
        have hcall := Lib.hid (send_any wr B s P M n (c + m) D _ hSm i m hi hlt hn (by omega) (x + 1) hln.out)
        obtain ⟨f', hAm⟩ := hSm
        obtain ⟨s0, s1⟩ := hAm.cells
        obtain ⟨p0, p1, p2, p3, p4, p5⟩ := hAm.prc hi
        have p3' : wr.cell? ⟨P, i * 6 + 3, none⟩ = some (.int .i64 (x + 1)) := by
          rw [p3]
          show some (Value.int .i64 (T.num i)) = _
          rw [hx.out]
        clear e hAm p0 p1 p2 p3 p4 p5 s1
        go_wp2_with fail
        refine hcall.out.mono ?_
        rintro e w3 ⟨rfl, hS3, hB3⟩
        have hB4 := hBm.trans hB3
        rw [hnx.out] at hS3
        have hS3H := Lib.hid hS3
        clear hBm hB3 hS3
        go_wp2_with fail
        go_roundw
        case rel => exact ⟨m + 1, by omega, by go_num, hS3H.out, hB4⟩
        case measure => simp [intOf]; omega
    · have hmn : m = n := by omega
      subst hmn
      have hcall := Lib.hid (enter_any wr B s P M m (c + m) D _ hSm i hi hn)
      clear hSm
      go_wp2_with fail
      refine hcall.out.mono ?_
      rintro e w5 ⟨rfl, hS5, hB5⟩
      have hS5H := Lib.hid (hS5.mono (show c + m ≤ c + 7 by omega))
      clear hS5
      go_wp2_with fail
      go_ret
      exact ⟨rfl, by rw [hreq.out]; exact hS5H.out, hBm.trans hB5⟩

#print axioms request_yes
#print axioms has_any
#print axioms enter_any
#print axioms precedes_any
end Go.Proofs.Ythnmppajakdcaaa
