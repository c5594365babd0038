/-
  The contracts of (*system).send and (*system).take of package quiet.
-/
import Derived.Test.YtichcahlokjblaaQrl
import Derived.BigRegion
namespace Go.Proofs.Ytichcahlokjblaa
open Go.RowKit Go.Maps
set_option linter.unusedVariables false

set_option maxHeartbeats 1600000 in
theorem send_no (w : World) (B s P M n c : Nat) (S : QS) (hS : SysQ w B s P M n c S (S.exp n)) (i j : Nat) (hi : i < n) (hn : n ≤ 6) (ha : S.act i = false) :
    Calls Try.prog 22 #[.pointer (some ⟨s, 0, none⟩), .agg #[.int .i64 (i : Int), .int .i64 (j : Int)]] w (MovRes B s P M n c w S 7) := by
  have hS0 := hS.alloc (.cells #[.int .i64 (i : Int), .int .i64 (j : Int)] 59)
  obtain ⟨s0, s1⟩ := hS0.cells
  obtain ⟨p0, p1, p2, p3⟩ := hS0.prs.cells hi
  have hiI : (i : Int) < (n : Int) := by omega
  rw [ha] at p0
  have hK := Lib.hid ((KQ.refl B P M w).alloc hS.sz (.cells #[.int .i64 (i : Int), .int .i64 (j : Int)] 59))
  have hSH := Lib.hid (hS0.mono (Nat.le_succ c))
  clear hS hS0
  go_enter Try.func22, Try.ntmps22
  go_wp2_with fail
  go_quiet (fail)
  go_wp2_with fail
  go_ret
  exact ⟨rfl, hSH.out.drewN _, hK.out.drewN _⟩
set_option maxHeartbeats 4000000 in
theorem send_yes (w : World) (B s P M n c : Nat) (S : QS) (hS : SysQ w B s P M n c S (S.exp n)) (i j : Nat) (hi : i < n) (hj : j < n) (hn : n ≤ 6) (hc : c ≤ 100) (ha : S.act i = true) (htr : ∀ a b, S.tr a b ≤ 900) :
    Calls Try.prog 22 #[.pointer (some ⟨s, 0, none⟩), .agg #[.int .i64 (i : Int), .int .i64 (j : Int)]] w (MovRes B s P M n c w (S.send i j) 0) := by
  have hS0 := hS.alloc (.cells #[.int .i64 (i : Int), .int .i64 (j : Int)] 59)
  obtain ⟨s0, s1⟩ := hS0.cells
  obtain ⟨p0, p1, p2, p3⟩ := hS0.prs.cells hi
  have hiI : (i : Int) < (n : Int) := by omega
  rw [ha] at p0
  have hK := Lib.hid ((KQ.refl B P M w).alloc hS.sz (.cells #[.int .i64 (i : Int), .int .i64 (j : Int)] 59))
  have hR := Row.made w 59 [.int .i64 (i : Int), .int .i64 (j : Int)]
  have hRH := Lib.hid hR
  have hSH := Lib.hid hS0
  have hle := QS.exp_le S n i 900 (htr i)
  have h0 := QS.exp_nonneg S n i
  have hle2 : S.exp n i ≤ 6000 := by
    have : (n : Int) * (((900 : Nat) : Int) + 1) ≤ 6 * 901 := by
      have : (((900 : Nat) : Int) + 1) = 901 := rfl
      rw [this]
      omega
    omega
  have htij := htr i j
  clear hS hS0 hR htr hle
  go_enter Try.func22, Try.ntmps22
  go_wp2_with fail
  go_quiet (fail)
  generalize hwa : w.alloc (.cells #[.int .i64 (i : Int), .int .i64 (j : Int)] 59) = wa at *
  have hS1 := Lib.hid (hSH.out.drewN nq)
  have hR1 := Lib.hid (hRH.out.block (w' := wa.drewN nq) (by rw [← hwa]; rfl))
  have hK1 := Lib.hid (hK.out.drewN nq)
  generalize w.heap.size = g at *
  clear s0 s1 p0 p1 p2 p3 hSH hRH hK hwa
  generalize wa.drewN nq = w1 at *
  obtain ⟨s0, s1⟩ := hS1.out.cells
  obtain ⟨p0, p1, p2, p3⟩ := hS1.out.prs.cells hi
  rw [ha] at p0
  have pf := hS1.out.prs.frozen (i * 4 + 3)
  have hS2 := hS1.out.setEx hi (S.exp n i + 1)
  obtain ⟨t0, t1⟩ := hS2.cells
  have hPs := hS2.apart
  have hgP : g ≠ P := by
    obtain ⟨xs, hP, _⟩ := hS1.out.prs
    exact row_ne hR1.out hP (by decide)
  have hR2 := hR1.out.far (p := ⟨P, i * 4 + 3, none⟩) hgP (.int .i64 (S.exp n i + 1))
  have r0 := hR2.cell (i := 0) (by simp)
  have r1 := hR2.cell (i := 1) (by simp)
  simp only [List.getElem_cons_zero, List.getElem_cons_succ] at r0 r1
  have hK2 := Lib.hid ((hK1.out.setP hS1.out.lowP (i * 4 + 3) (.int .i64 (S.exp n i + 1))).drew)
  have hS2d := hS2.drew
  obtain ⟨v0, st, w2, w3, e1, l1, l2, g1, e2, hS3, g2⟩ := hS2d.bump hn hc hi hj (S.tr i j + 1)
  have hszd : B ≤ ((w1.setCell ⟨P, i * 4 + 3, none⟩ (.int .i64 (S.exp n i + 1))).drew).heap.size := hS2d.sz
  have hK3 := Lib.hid (hK2.out.grown hS1.out.lowM hszd g2)
  have hS4 : Hid (SysQ w3 B s P M n (c + 1) (S.send i j) ((S.send i j).exp n)) := hS3.congr fun a _ => by
    rw [QS.exp_send hj]
    by_cases e : a = i
    · subst e; rw [if_pos rfl, up1_same]
    · rw [if_neg e, up1_other _ _ e]
  have ht1 : ((S.tr i j + 1 : Nat) : Int) = (S.tr i j : Int) + 1 := by omega
  rw [ht1] at e2
  unfold chv at e1 l1 l2
  have htI : (S.tr i j : Int) ≤ 900 := by omega
  have htI0 : 0 ≤ (S.tr i j : Int) := by omega
  clear hS1 hR1 hK1 hS2 hPs hgP hR2 hK2 hS2d g1 g2 hS3 hszd ht1 htij
  generalize S.exp n i = x at *
  generalize (S.tr i j : Int) = y at *
  generalize S.send i j = T at *
  go_wp2_with fail
  go_region
  go_wp2_with fail
  go_ret
  exact ⟨rfl, hS4.out, hK3.out⟩


/-- What lies ahead of a receipt, in whatever world that a drawn region leaves. -/
theorem SysQ.look {w : World} {B s P M n c : Nat} {S : QS} {ex : Nat → Int} (hS : SysQ w B s P M n c S ex) {i j : Nat} (hi : i < n) (hj : j < n) (hn : n ≤ 6) :
    ∀ k, (Instr.lookup 52 (.map (some M)) (.agg #[.int .i64 (i : Int), .int .i64 (j : Int)]) false).run Try.prog (w.drewN k) = .ok (.int .i64 (S.tr i j : Int)) (w.drewN k) := fun k => by
  obtain ⟨f, hM, f2, f3⟩ := (hS.drewN k).map
  have hlook := hM.look (i := i) (j := j) (by omega) (by omega)
  rw [f2 i j hi hj] at hlook
  exact hlook

set_option maxHeartbeats 1600000 in
theorem take_no (w : World) (B s P M n c : Nat) (S : QS) (hS : SysQ w B s P M n c S (S.exp n)) (i j : Nat) (hi : i < n) (hj : j < n) (hn : n ≤ 6) (ht : S.tr i j = 0) :
    Calls Try.prog 23 #[.pointer (some ⟨s, 0, none⟩), .agg #[.int .i64 (i : Int), .int .i64 (j : Int)]] w (MovRes B s P M n c w S 5) := by
  have hS0 := hS.alloc (.cells #[.int .i64 (i : Int), .int .i64 (j : Int)] 59)
  obtain ⟨s0, s1⟩ := hS0.cells
  have hlook := hS0.look hi hj hn
  rw [ht] at hlook
  have hK := Lib.hid ((KQ.refl B P M w).alloc hS.sz (.cells #[.int .i64 (i : Int), .int .i64 (j : Int)] 59))
  have hSH := Lib.hid (hS0.mono (Nat.le_succ c))
  clear hS hS0
  go_enter Try.func23, Try.ntmps23
  go_wp2_with fail
  go_quiet (fail)
  go_wp2_with fail
  go_ret
  exact ⟨rfl, hSH.out.drewN _, hK.out.drewN _⟩

/-- Behind the two stores of a receipt. -/
structure TkQ (w : World) (B s P M n c g : Nat) (S : QS) (i j : Nat) (w0 : World) : Prop where
  sys : SysQ w B s P M n (c + 1) { S with tr := up2 S.tr i j (S.tr i j - 1) } (S.exp n)
  row : Row w g 59 [.int .i64 (i : Int), .int .i64 (j : Int)]
  kept : KQ B P M w0 w
theorem TkQ.drewN {w w0 : World} {B s P M n c g : Nat} {S : QS} {i j : Nat} (h : TkQ w B s P M n c g S i j w0) (k : Nat) : TkQ (w.drewN k) B s P M n c g S i j w0 := ⟨h.sys.drewN k, h.row.block rfl, h.kept.drewN k⟩

set_option maxHeartbeats 4000000 in
theorem take_yes (w : World) (B s P M n c : Nat) (S : QS) (hS : SysQ w B s P M n c S (S.exp n)) (hO : QOk n S) (i j : Nat) (hi : i < n) (hj : j < n) (hn : n ≤ 6) (hc : c ≤ 100) (ht : S.tr i j ≠ 0) (htr : ∀ a b, S.tr a b ≤ 900) :
    Calls Try.prog 23 #[.pointer (some ⟨s, 0, none⟩), .agg #[.int .i64 (i : Int), .int .i64 (j : Int)]] w (MovRes B s P M n c w (S.take n i j) 0) := by
  have hS0 := hS.alloc (.cells #[.int .i64 (i : Int), .int .i64 (j : Int)] 59)
  obtain ⟨s0, s1⟩ := hS0.cells
  have hjI : (j : Int) < (n : Int) := by omega
  have hlook := hS0.look hi hj hn
  have hK := Lib.hid ((KQ.refl B P M w).alloc hS.sz (.cells #[.int .i64 (i : Int), .int .i64 (j : Int)] 59))
  have hRH := Lib.hid (Row.made w 59 [.int .i64 (i : Int), .int .i64 (j : Int)])
  have hSH := Lib.hid hS0
  have htij := htr i j
  have htI : (S.tr i j : Int) ≤ 900 := by omega
  have htI0 : 1 ≤ (S.tr i j : Int) := by omega
  have ht0 : ((S.tr i j : Int) == 0) = false := by simpa using ht
  have htH := Lib.hid ht
  have htrH := Lib.hid htr
  clear hS hS0 ht htr htij
  obtain ⟨y, hy⟩ : ∃ y : Int, Hid ((S.tr i j : Int) = y) := ⟨_, rfl⟩
  rw [hy.out] at hlook htI htI0 ht0
  go_enter Try.func23, Try.ntmps23
  go_wp2_with fail
  go_quiet (fail)
  generalize hwa : w.alloc (.cells #[.int .i64 (i : Int), .int .i64 (j : Int)] 59) = wa at *
  have hS1 := Lib.hid (hSH.out.drewN nq)
  have hR1 := Lib.hid (hRH.out.block (w' := wa.drewN nq) (by rw [← hwa]; rfl))
  have hK1 := Lib.hid (hK.out.drewN nq)
  generalize w.heap.size = g at *
  clear s0 s1 hSH hRH hK hwa hlook
  generalize wa.drewN nq = w1 at *
  obtain ⟨s0, s1⟩ := hS1.out.cells
  have r0 := hR1.out.cell (i := 0) (by simp)
  have r1 := hR1.out.cell (i := 1) (by simp)
  simp only [List.getElem_cons_zero, List.getElem_cons_succ] at r0 r1
  have hS1d := hS1.out.drew
  obtain ⟨v0, st, w2, w3, e1, l1, l2, g1, e2, hS3, g2⟩ := hS1d.bump hn hc hi hj (S.tr i j - 1)
  have hM : some g ≠ some M := by
    intro e
    injection e with e
    exact hS1.out.map.ne_row hR1.out e.symm
  have hT3 : Hid (TkQ w3 B s P M n c g S i j w) := ⟨hS3, (hR1.out.block (w' := w1.drew) rfl).grown g2 hM, hK1.out.drew.grown hS1.out.lowM hS1d.sz g2⟩
  have ht1 : ((S.tr i j - 1 : Nat) : Int) = y - 1 := by
    have := hy.out
    have := htH.out
    omega
  rw [ht1] at e2
  rw [hy.out] at l1 l2
  unfold chv at e1 l1 l2
  clear hS1 hR1 hK1 hS1d g1 g2 hS3 ht1 hM
  go_wp2_with fail
  go_region
  clear s0 s1 r0 r1 e1 e2 l1 l2
  obtain ⟨s0, s1⟩ := hT3.out.sys.cells
  have r1 := hT3.out.row.cell (i := 1) (by simp)
  simp only [List.getElem_cons_zero, List.getElem_cons_succ] at r1
  go_wp2_with fail
  go_quiet (fail)
  have hT4 := Lib.hid (hT3.out.drewN nq)
  clear s0 s1 r1 hT3
  generalize w3.drewN nq = w4 at *
  obtain ⟨s0, s1⟩ := hT4.out.sys.cells
  obtain ⟨p0, p1, p2, p3⟩ := hT4.out.sys.prs.cells hj
  have pf := hT4.out.sys.prs.frozen (j * 4)
  have hgP : g ≠ P := by
    obtain ⟨xs, hP, _⟩ := hT4.out.sys.prs
    exact row_ne hT4.out.row hP (by decide)
  have hS5 : Hid (SysQ (w4.setCell ⟨P, j * 4, none⟩ (.bool true)) B s P M n (c + 1) (S.got i j) (S.exp n)) := hT4.out.sys.setAct hj true
  have hR5 := Lib.hid (hT4.out.row.far (p := ⟨P, j * 4, none⟩) hgP (.bool true))
  have hK5 := Lib.hid (hT4.out.kept.setP hT4.out.sys.lowP (j * 4) (.bool true))
  have q0 := hR5.out.cell (i := 0) (by simp)
  simp only [List.getElem_cons_zero] at q0
  obtain ⟨u0, u1, u2, u3⟩ := hS5.out.prs.cells hj
  obtain ⟨dep, hI, hSt⟩ := hO
  by_cases he : S.eng j = true
  · have hres : S.take n i j = rel n (n + 1) (S.got i j) i := by unfold QS.take; rw [if_pos he]
    have hresH := Lib.hid hres
    have u1' : (w4.setCell ⟨P, j * 4, none⟩ (.bool true)).cell? ⟨P, j * 4 + 1, none⟩ = some (.bool true) := by rw [u1]; show some (Value.bool (S.eng j)) = _; rw [he]
    have p1' : w4.cell? ⟨P, j * 4 + 1, none⟩ = some (.bool true) := by rw [p1]; show some (Value.bool (S.eng j)) = _; rw [he]
    have htr2 : ∀ a b, (S.got i j).tr a b ≤ 900 := fun a b => by
      show up2 S.tr i j (S.tr i j - 1) a b ≤ 900
      by_cases e : a = i ∧ b = j
      · rw [e.1, e.2, up2_same]; have := htrH.out i j; omega
      · rw [up2_other _ _ e]; exact htrH.out a b
    have hie := (hI.trE i j htH.out).2.2
    have hcall := Lib.hid (ack_step _ B s P M n (c + 1) (S.got i j) (rel n (n + 1) (S.got i j) i) (S.exp n) hS5.out i hi hn (fun a _ => by
      rw [QS.exp_got hj htH.out]
      by_cases e : a = i
      · rw [if_pos e, if_pos e]; omega
      · rw [if_neg e, if_neg e]) htr2 (fun w6 h6 => release_any B s P M n (c + 1) hn dep (n + 1) w6 (S.got i j) i h6 (hI.got he) hie (by have := cntB_le n (S.got i j).eng; omega) htr2))
    clear p1 u1 hI hSt hT4 hS5 hR5 htr2 hie hres
    generalize rel n (n + 1) (S.got i j) i = T at *
    go_wp2_with fail
    refine hcall.out.mono ?_
    rintro e w7 ⟨rfl, hS7, hK7⟩
    have hS8 := Lib.hid hS7
    clear hS7
    go_wp2_with fail
    go_ret
    exact ⟨rfl, by rw [hresH.out]; exact hS8.out, hK5.out.trans hK7⟩
  · have hef : S.eng j = false := by simpa using he
    have hres : S.take n i j = (S.got i j).bind i j := by unfold QS.take; rw [if_neg he]
    have hresH := Lib.hid hres
    have p1' : w4.cell? ⟨P, j * 4 + 1, none⟩ = some (.bool false) := by rw [p1]; show some (Value.bool (S.eng j)) = _; rw [hef]
    have h0 : j ≠ 0 := fun e => by rw [e, hI.e0] at hef; cases hef
    have pf1 := hT4.out.sys.prs.frozen (j * 4 + 1)
    have pf2 := hT4.out.sys.prs.frozen (j * 4 + 2)
    have hS6 := hS5.out.setEng hj true
    have hS7 : Hid (SysQ (((w4.setCell ⟨P, j * 4, none⟩ (.bool true)).setCell ⟨P, j * 4 + 1, none⟩ (.bool true)).setCell ⟨P, j * 4 + 2, none⟩ (.int .i64 (i : Int))) B s P M n (c + 1) ((S.got i j).bind i j) (((S.got i j).bind i j).exp n)) := (hS6.setPar hj i).congr fun a _ => by
      rw [QS.exp_bind (S := S.got i j) (i := i) hj h0 hef, QS.exp_got hj htH.out]
      by_cases e : a = i
      · rw [if_pos e, if_pos e]; omega
      · rw [if_neg e, if_neg e]
    have hR6 := hR5.out.far (p := ⟨P, j * 4 + 1, none⟩) hgP (.bool true)
    have q1 := hR6.cell (i := 0) (by simp)
    simp only [List.getElem_cons_zero] at q1
    have hlowP := hS5.out.lowP
    have hK7 := Lib.hid ((hK5.out.setP hlowP (j * 4 + 1) (.bool true)).setP hlowP (j * 4 + 2) (.int .i64 (i : Int)))
    obtain ⟨x0, x1, x2, x3⟩ := hS6.prs.cells hj
    clear p1 u1 hI hSt hT4 hS5 hR5 hS6 hR6 hK5 hres
    go_wp2_with fail
    go_ret
    exact ⟨rfl, by rw [hresH.out]; exact hS7.out, hK7.out⟩

#print axioms send_yes
#print axioms take_yes
end Go.Proofs.Ytichcahlokjblaa
