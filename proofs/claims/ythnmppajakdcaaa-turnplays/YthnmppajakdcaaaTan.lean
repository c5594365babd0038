/-
  The contracts of (*system).leave and answer of package turn.
-/
import Derived.Test.YthnmppajakdcaaaTen
namespace Go.Proofs.Ythnmppajakdcaaa
open Go.RowKit Go.Maps
set_option linter.unusedVariables false

set_option maxHeartbeats 800000 in
theorem leave_no (w : World) (B s P M n c : Nat) (D : Nat → Nat) (S : TS) (hS : SysT w B s P M n c D S) (i : Nat) (hi : i < n) (hn : n ≤ 6) (h : S.ins i = false) :
    Calls Try.prog 28 #[.pointer (some ⟨s, 0, none⟩), .int .i64 (i : Int)] w (MovT B s P M n c D w S 7) := by
  obtain ⟨f, hA⟩ := hS
  obtain ⟨s0, s1⟩ := hA.cells
  obtain ⟨p0, p1, p2, p3, p4, p5⟩ := hA.prc hi
  have hiI : (i : Int) < (n : Int) := by omega
  have hAH := Lib.hid (hA.mono (show c ≤ c + 7 by omega))
  rw [h] at p2
  clear hA p0 p1 p3 p4 p5 h
  go_enter Try.func28, Try.ntmps28
  go_wp2_with fail
  go_ret
  exact ⟨rfl, ⟨f, hAH.out⟩, BlT.refl _ _⟩

theorem gives_len (S : TS) (i m a b : Nat) : ((S.gives i m).q a b).length ≤ (S.q a b).length + 1 := by
  simp only [TS.gives]
  split <;> simp
theorem gives_owe (S : TS) (i m : Nat) : (S.gives i m).owe i m = S.owe i m := by
  simp only [TS.gives]
  rw [if_neg (by omega)]
def LvRel (B s P M n c : Nat) (D : Nat → Nat) (S : TS) (w : World) (i m : Nat) (wr : World) : Prop := SysT wr B s P M n (c + m) D (S.gives i m) ∧ BlT B w wr

set_option maxHeartbeats 4000000 in
theorem leave_yes (w : World) (B s P M n c : Nat) (D : Nat → Nat) (S : TS) (hS : SysT w B s P M n c D S) (i : Nat) (hi : i < n) (hn : n ≤ 6) (hc : c ≤ 90000) (h : S.ins i = true) (hl : ∀ a b, (S.q a b).length ≤ 900) :
    Calls Try.prog 28 #[.pointer (some ⟨s, 0, none⟩), .int .i64 (i : Int)] w (MovT B s P M n c D w (S.leave n i) 0) := by
  obtain ⟨f, hA⟩ := hS
  obtain ⟨s0, s1⟩ := hA.cells
  obtain ⟨p0, p1, p2, p3, p4, p5⟩ := hA.prc hi
  rw [h] at p2
  have hiI : (i : Int) < (n : Int) := by omega
  have f2 := hA.prs.frozen (i * 6 + 2)
  have hA1 := hA.setIns hi false
  have hS1 : Hid (SysT (w.setCell ⟨P, i * 6 + 2, none⟩ (.bool false)) B s P M n c D (S.off i)) := ⟨f, hA1⟩
  have hb1 := Lib.hid (hA.blkP (BlT.refl B w) (i * 6 + 2) (.bool false))
  have hlH : Hid (∀ a b, ((S.off i).q a b).length ≤ 900) := hl
  have hres : Hid (S.leave n i = (S.off i).gives i n) := rfl
  clear hA hA1 hl h
  generalize hT : S.off i = T at *
  clear hT
  go_enter Try.func28, Try.ntmps28
  go_wp2_with fail
  have hS1' := hS1.out
  have hb1' := hb1.out
  generalize w.setCell ⟨P, i * 6 + 2, none⟩ (.bool false) = w1 at *
  have hini : Hid (LvRel B s P M n c D T w i 0 w1) := ⟨by rw [TS.gives_zero]; exact hS1', hb1'⟩
  clear hS1 hb1 hS1' hb1' s0 s1 p0 p1 p2 p3 p4 p5 f2
  go_loopw [27, 7] (fun t _ wr => ∃ m : Nat, m ≤ n ∧ t = .int .i64 m ∧ LvRel B s P M n c D T w i m wr) (fun t _ _ => n - (intOf t).toNat)
  case atStart => exact ⟨0, Nat.zero_le _, rfl, hini.out⟩
  case round =>
    clear hini
    obtain ⟨m, hm, rfl, hSm, hBm⟩ := hrel
    by_cases hlt : m < n
    · have hmI : (m : Int) < (n : Int) := by omega
      have hSmH := Lib.hid hSm
      obtain ⟨f', hAm⟩ := hSm
      obtain ⟨s0, s1⟩ := hAm.cells
      obtain ⟨p0, p1, p2, p3, p4, p5⟩ := hAm.prc hi
      have d0 := BRowG.at_ (hAm.dfr i hi) hlt
      rw [gives_owe] at d0
      cases ho : T.owe i m with
      | false =>
        rw [ho] at d0
        have hnx := Lib.hid (TS.gives_no T ho)
        have hSm2 := Lib.hid (hSmH.out.mono (show c + m ≤ c + (m + 1) by omega))
        clear hAm hSmH p0 p1 p2 p3 p4 s1 ho
        go_wp2_with fail
        go_roundw
        case rel => exact ⟨m + 1, by omega, by go_num, by rw [hnx.out]; exact hSm2.out, hBm⟩
        case measure => simp [intOf]; omega
      | true =>
        rw [ho] at d0
        have hnx := Lib.hid (TS.gives_yes T ho)
        have df := Row.frozen (hAm.dfr i hi) m
        have hA2 := hAm.setOwe hi m false
        have hb2 := Lib.hid (hAm.blkD hBm hi m (.bool false))
        have hS2 : SysT (wr.setCell ⟨D i, m, none⟩ (.bool false)) B s P M n (c + m) D { T.gives i m with owe := up2 (T.gives i m).owe i m false } := ⟨f', hA2⟩
        have hln : Hid (((T.gives i m).q i m).length ≤ 1000) := by
          have h1 := gives_len T i m i m
          have h2 := hlH.out i m
          unfold Hid
          omega
        have hcall := Lib.hid (send_any _ B s P M n (c + m) D _ hS2 i m hi hlt hn (by omega) 0 hln.out)
        clear hAm hSmH p0 p1 p2 p3 p4 s1 hA2 hS2 ho
        go_wp2_with fail
        refine hcall.out.mono ?_
        rintro e w3 ⟨rfl, hS3, hB3⟩
        have hB4 := hb2.out.trans hB3
        rw [hnx.out] at hS3
        have hS3H := Lib.hid hS3
        clear hBm hB3 hS3 hb2
        go_wp2_with fail
        go_roundw
        case rel => exact ⟨m + 1, by omega, by go_num, hS3H.out, hB4⟩
        case measure => simp [intOf]; omega
    · have hmn : m = n := by omega
      subst hmn
      have hS5H := Lib.hid (hSm.mono (show c + m ≤ c + 7 by omega))
      clear hSm
      go_wp2_with fail
      go_ret
      exact ⟨rfl, by rw [hres.out]; exact hS5H.out, hBm⟩

/-- Behind the clock: the answer, from whatever world. -/
structure AnsT (w1 w : World) (B s P M n c : Nat) (D : Nat → Nat) (f : Nat → Nat → Option Value) (T : TS) : Prop where
  sys : SysTA w1 B s P M n c D f T
  blt : BlT B w w1

set_option maxHeartbeats 8000000 in
theorem answer_any (w : World) (B s P M n c : Nat) (D : Nat → Nat) (S : TS) (hS : SysT w B s P M n c D S) (i j : Nat) (hi : i < n) (hj : j < n) (hn : n ≤ 6) (hc : c ≤ 90000) (x : Int) (hk : 0 ≤ S.clk i ∧ S.clk i ≤ 1000) (hx : 0 ≤ x ∧ x ≤ 1000) (hl : ∀ a b, (S.q a b).length ≤ 900) :
    Calls Try.prog 32 #[.pointer (some ⟨s, 0, none⟩), .int .i64 (i : Int), .int .i64 (j : Int), .int .i64 x] w fun e w' => e = .returned (.tuple #[]) ∧ SysT w' B s P M n (c + 1) D (S.answer i j x) ∧ BlT B w w' := by
  obtain ⟨f, hA⟩ := hS
  obtain ⟨s0, s1⟩ := hA.cells
  obtain ⟨p0, p1, p2, p3, p4, p5⟩ := hA.prc hi
  have hiI : (i : Int) < (n : Int) := by omega
  have hjI : (j : Int) < (n : Int) := by omega
  obtain ⟨hk0, hk1⟩ := hk
  obtain ⟨hx0, hx1⟩ := hx
  have f0 := hA.prs.frozen (i * 6)
  have hsP : s ≠ P := by
    obtain ⟨xs, hP⟩ := hA.prs.row
    exact rowG_ne hA.sys hP (by decide)
  obtain ⟨y, hy⟩ : ∃ y, Hid (max (S.clk i) x = y) := ⟨_, rfl⟩
  have hcase : (S.clk i < x ∧ x = y) ∨ (¬ S.clk i < x ∧ S.clk i = y) := by
    have := hy.out
    omega
  have hA1 := hA.setClk hi (max (S.clk i) x)
  have hb1 := hA.blkP (BlT.refl B w) (i * 6) (.int .i64 (max (S.clk i) x))
  have hans : Hid (AnsT (w.setCell ⟨P, i * 6, none⟩ (.int .i64 (max (S.clk i) x))) w B s P M n c D f (S.hear i x)) := ⟨hA1, hb1⟩
  rw [hy.out] at hans
  have hln : Hid (((S.hear i x).q i j).length ≤ 1000) := Nat.le_trans (hl i j) (by omega)
  have hdef : Hid (S.later i j x = true → S.answer i j x = (S.hear i x).defer i j) := fun h => if_pos h
  have hput : Hid (S.later i j x = false → S.answer i j x = (S.hear i x).put i j 0) := fun h => if_neg (by rw [h]; simp)
  have hlat : Hid (S.later i j x = (S.ins i || (S.req i && (decide ((S.hear i x).num i < x) || (decide ((S.hear i x).num i = x) && decide (i < j)))))) := rfl
  have hDP : D i ≠ P := by
    obtain ⟨xs, hP⟩ := hA.prs.row
    exact rowG_ne (hA.dfr i hi) hP (by decide)
  have d0 := BRowG.at_ (hA.dfr i hi) hj
  have df := Row.frozen (hA.dfr i hi) j
  clear hA hA1 hb1 hl p3 p4 hy
  generalize S.answer i j x = R at *
  generalize S.later i j x = L at *
  generalize S.hear i x = T at *
  generalize S.owe i j = o at *
  generalize S.ins i = a at *
  generalize S.req i = b at *
  obtain ⟨C, hC⟩ : ∃ C, Hid ((decide (T.num i < x) || (decide (T.num i = x) && decide (i < j))) = C) := ⟨_, rfl⟩
  rw [hC.out] at hlat
  generalize S.clk i = z at *
  have hDS : Hid (∀ w1, AnsT w1 w B s P M n c D f T → SysT (w1.setCell ⟨D i, j, none⟩ (.bool true)) B s P M n (c + 1) D (T.defer i j) ∧ BlT B w (w1.setCell ⟨D i, j, none⟩ (.bool true))) := fun w1 h => ⟨⟨f, (h.sys.setOwe hi j true).mono (by omega)⟩, h.sys.blkD h.blt hi j (.bool true)⟩
  have hPut : Hid (∀ w1, AnsT w1 w B s P M n c D f T → Calls Try.prog 30 #[.pointer (some ⟨s, 0, none⟩), .int .i64 (i : Int), .int .i64 (j : Int), .int .i64 0] w1 fun e w' => e = .returned (.tuple #[]) ∧ SysT w' B s P M n (c + 1) D (T.put i j 0) ∧ BlT B w w') := fun w1 h =>
    (send_any w1 B s P M n c D T ⟨f, h.sys⟩ i j hi hj hn (by omega) 0 hln.out).mono fun e w' h' => ⟨h'.1, h'.2.1, h.blt.trans h'.2.2⟩
  have hPre : Hid (∀ w1, AnsT w1 w B s P M n c D f T → Calls Try.prog 33 #[.pointer (some ⟨s, 0, none⟩), .int .i64 (i : Int), .int .i64 (j : Int), .int .i64 x] w1 fun e w' => e = .returned (.bool C) ∧ w1 = w') := fun w1 h =>
    precedes_any w1 B s P M n c D T ⟨f, h.sys⟩ i j hi hn x C hC.out.symm
  clear hC
  rcases hcase with ⟨h1, rfl⟩ | ⟨h1, rfl⟩
  all_goals
    cases a with
    | true =>
      have hR := Lib.hid (hdef.out (by rw [hlat.out]; rfl))
      have hfin := Lib.hid (hDS.out _ hans.out)
      clear hdef hput hlat hPut hPre hDS hans hln
      go_enter Try.func32, Try.ntmps32
      go_wp2_with fail
      (try simp only [Exit.inBlock, Exit.then])
      refine bodyPost_ret (results_none rfl _ _ _) rfl ?_
      exact ⟨rfl, by rw [hR.out]; exact hfin.out.1, hfin.out.2⟩
    | false =>
      cases b with
      | false =>
        have hR := Lib.hid (hput.out (by rw [hlat.out]; rfl))
        have hcall := Lib.hid (hPut.out _ hans.out)
        clear hdef hput hlat hPut hPre hDS hans hln
        go_enter Try.func32, Try.ntmps32
        go_wp2_with fail
        refine hcall.out.mono ?_
        rintro e w3 ⟨rfl, hS3, hB3⟩
        have hS3H := Lib.hid hS3
        clear hS3
        go_wp2_with fail
        go_end0
        exact ⟨rfl, by rw [hR.out]; exact hS3H.out, hB3⟩
      | true =>
        have hpc := Lib.hid (hPre.out _ hans.out)
        cases C with
        | true =>
          have hR := Lib.hid (hdef.out (by rw [hlat.out]; rfl))
          have hfin := Lib.hid (hDS.out _ hans.out)
          clear hdef hput hlat hPut hPre hDS hans hln
          go_enter Try.func32, Try.ntmps32
          go_wp2_with fail
          refine hpc.out.mono ?_
          rintro e w3 ⟨rfl, rfl⟩
          go_wp2_with fail
          (try simp only [Exit.inBlock, Exit.then])
          refine bodyPost_ret (results_none rfl _ _ _) rfl ?_
          exact ⟨rfl, by rw [hR.out]; exact hfin.out.1, hfin.out.2⟩
        | false =>
          have hR := Lib.hid (hput.out (by rw [hlat.out]; rfl))
          have hcall := Lib.hid (hPut.out _ hans.out)
          clear hdef hput hlat hPut hPre hDS hans hln
          go_enter Try.func32, Try.ntmps32
          go_wp2_with fail
          refine hpc.out.mono ?_
          rintro e w3 ⟨rfl, rfl⟩
          go_wp2_with fail
          refine hcall.out.mono ?_
          rintro e w3 ⟨rfl, hS3, hB3⟩
          have hS3H := Lib.hid hS3
          clear hS3
          go_wp2_with fail
          go_end0
          exact ⟨rfl, by rw [hR.out]; exact hS3H.out, hB3⟩

#print axioms leave_yes
#print axioms answer_any
end Go.Proofs.Ythnmppajakdcaaa
