/-
  The contract of (*system).come of package turn.
-/
import Derived.Test.YthnmppajakdcaaaTan
import Derived.BigRegion
namespace Go.Proofs.Ythnmppajakdcaaa
open Go.RowKit Go.Maps
set_option linter.unusedVariables false

/-- What lies ahead of a receipt: the slice on the channel, and where its first message is. -/
theorem SysTA.qshape {w : World} {B s P M n c : Nat} {D : Nat → Nat} {f : Nat → Nat → Option Value} {S : TS} (h : SysTA w B s P M n c D f S) {i j : Nat} (hi : i < n) (hj : j < n) {x : Int} {r : List Int} (hq : S.q i j = x :: r) :
    ∃ g off cap, vq f i j = .slice (some ⟨g, off, none⟩) (r.length + 1) cap ∧ r.length + 1 ≤ cap ∧ cap ≤ maxLen ∧ w.cell? ⟨g, off, none⟩ = some (.int .i64 x) ∧ B ≤ g ∧ g < w.heap.size ∧ M ≠ g ∧
      Que w B (.slice (if cap = 1 then some ⟨g, off, none⟩ else some ⟨g, off + 1, none⟩) r.length (cap - 1)) r := by
  have hQ := h.que i j hi hj
  obtain ⟨A, cap, hv, h1, h2, h3⟩ := hQ.shape
  rw [hq] at h3 hv h1
  obtain ⟨g, off, rfl, h4⟩ := h3 0 (by simp)
  have hlt := hQ.lt (g := g) (by rw [hv]; rfl)
  obtain ⟨es, cc, hM⟩ := h.map.obj
  have hne := hQ.ne_map hM
  rw [hv] at hne hQ
  rw [hq] at hQ
  have ht := hQ.tail
  refine ⟨g, off, cap, hv, h1, h2, by simpa using h4, hlt.1, hlt.2, fun e => hne (by simp [Value.ownBlock, e]), ?_⟩
  simpa [Addr.add] using ht

set_option maxHeartbeats 1600000 in
theorem come_no (w : World) (B s P M n c : Nat) (D : Nat → Nat) (S : TS) (hS : SysT w B s P M n c D S) (i j : Nat) (hi : i < n) (hj : j < n) (hn : n ≤ 6) (hq : S.q i j = []) :
    Calls Try.prog 29 #[.pointer (some ⟨s, 0, none⟩), .int .i64 (i : Int), .int .i64 (j : Int)] w (MovT B s P M n c D w S 5) := by
  obtain ⟨f, hA⟩ := hS
  have hA0 := hA.alloc (.cells #[.int .i64 (i : Int), .int .i64 (j : Int)] 66)
  have hb0 := Lib.hid ((BlT.refl B w).alloc hA.sz (.cells #[.int .i64 (i : Int), .int .i64 (j : Int)] 66))
  obtain ⟨s0, s1⟩ := hA0.cells
  have hlook := hA0.look hn hi hj
  obtain ⟨A, cap, hv, _⟩ := (hA0.que i j hi hj).shape
  rw [hv, hq] at hlook
  simp only [List.length_nil] at hlook
  unfold ch2 at hlook
  have hAH := Lib.hid (hA0.mono (show c ≤ c + 7 by omega))
  clear hA hA0 hv hq
  go_enter Try.func29, Try.ntmps29
  go_wp2_with fail
  go_quiet (fail)
  go_wp2_with fail
  go_ret
  exact ⟨rfl, ⟨f, hAH.out.drewN _⟩, hb0.out.drewN _⟩

/-- The first message is taken off: the store into the map. -/
theorem SysTA.popped {W : World} {B s P M n c : Nat} {D : Nat → Nat} {f : Nat → Nat → Option Value} {S : TS} (h : SysTA W B s P M n c D f S) (hn : n ≤ 6) (hc : c ≤ 100000) {i j : Nat} (hi : i < n) (hj : j < n) {x : Int} {r : List Int} (hq : S.q i j = x :: r) {g off cap : Nat} (hv : vq f i j = .slice (some ⟨g, off, none⟩) (r.length + 1) cap)
    (hQ : Que W B (.slice (if cap = 1 then some ⟨g, off, none⟩ else some ⟨g, off + 1, none⟩) r.length (cap - 1)) r) (hx : W.cell? ⟨g, off, none⟩ = some (.int .i64 x)) (hMg : M ≠ g) (hgl : g < W.heap.size) :
    ∃ w3, (Instr.mapUpdate 59 (.map (some M)) (ch2 i j) (.slice (if cap = 1 then some ⟨g, off, none⟩ else some ⟨g, off + 1, none⟩) r.length (cap - 1))).run Try.prog W = .ok () w3 ∧
      SysT w3 B s P M n (c + 1) D (S.pop i j) ∧ (∀ w0, BlT B w0 W → BlT B w0 w3) ∧ w3.cell? ⟨g, off, none⟩ = some (.int .i64 x) := by
  obtain ⟨w3, e3, hm3, g3⟩ := h.map.update (by unfold maxLen; omega) (i := i) (j := j) (by omega) (by omega) (.slice (if cap = 1 then some ⟨g, off, none⟩ else some ⟨g, off + 1, none⟩) r.length (cap - 1))
  have hob : (Value.slice (if cap = 1 then some ⟨g, off, none⟩ else some ⟨g, off + 1, none⟩) r.length (cap - 1)).ownBlock = (vq f i j).ownBlock := by
    rw [hv]
    split <;> rfl
  have hne : (Value.slice (if cap = 1 then some ⟨g, off, none⟩ else some ⟨g, off + 1, none⟩) r.length (cap - 1)).ownBlock ≠ some M := by
    rw [hob, hv]
    intro e
    injection e with e
    exact hMg e.symm
  have hS3 := h.put (T := S.pop i j) hi hj (hQ.kept g3 (.inr hne)) hm3 (fun b _ hb hbM _ => g3.block b hb (fun e => hbM (by injection e))) (.inl hob) ⟨rfl, rfl, rfl, rfl, rfl, rfl, by
    show up2 S.q i j (S.q i j).tail = _
    rw [hq]; rfl⟩
  exact ⟨w3, e3, ⟨_, hS3⟩, fun w0 hb => hb.grownM g3 h.map h.lowM h.sz, g3.cell hx (fun e => hMg (by injection e with e; exact e.symm))⟩

set_option maxHeartbeats 4000000 in
theorem come_reply (w : World) (B s P M n c : Nat) (D : Nat → Nat) (S : TS) (hS : SysT w B s P M n c D S) (i j : Nat) (hi : i < n) (hj : j < n) (hn : n ≤ 6) (hc : c ≤ 80000) (r : List Int) (hq : S.q i j = 0 :: r) (hm : 0 ≤ S.mis j ∧ S.mis j ≤ 1000) (hl : ∀ a b, (S.q a b).length ≤ 900) :
    Calls Try.prog 29 #[.pointer (some ⟨s, 0, none⟩), .int .i64 (i : Int), .int .i64 (j : Int)] w (MovT B s P M n c D w (((S.pop i j).less j).enter j) 0) := by
  obtain ⟨f, hA⟩ := hS
  have hA0 := hA.alloc (.cells #[.int .i64 (i : Int), .int .i64 (j : Int)] 66)
  have hR0 := Row.made w 66 [.int .i64 (i : Int), .int .i64 (j : Int)]
  have hb0 := Lib.hid ((BlT.refl B w).alloc hA.sz (.cells #[.int .i64 (i : Int), .int .i64 (j : Int)] 66))
  clear hA
  obtain ⟨s0, s1⟩ := hA0.cells
  have hlook := hA0.look hn hi hj
  obtain ⟨g, off, cap, hv, hcap, hcm, hx, hg, hgl, hMg, hQt⟩ := hA0.qshape hi hj hq
  rw [hv] at hlook
  unfold ch2 at hlook
  have hiI : (i : Int) < (n : Int) := by omega
  have hjI : (j : Int) < (n : Int) := by omega
  have hrl : r.length ≤ 900 := by have := hl i j; rw [hq] at this; simp at this; omega
  have hqH := Lib.hid hq
  have hRH := Lib.hid hR0
  have hAH := Lib.hid hA0
  have hQH := Lib.hid hQt
  have hvH := Lib.hid hv
  have hxH := Lib.hid hx
  have hglH := Lib.hid hgl
  have hm1 : (1 : Int) ≤ ((r.length + 1 : Nat) : Int) := by omega
  have hnz : (((r.length + 1 : Nat) : Int) == 0) = false := by simp; omega
  clear hA0 hR0 hv hq hl hQt hx hgl
  obtain ⟨m, hmr⟩ : ∃ m, Hid (r.length = m) := ⟨_, rfl⟩
  rw [hmr.out] at hlook hcap hrl hm1 hnz
  go_enter Try.func29, Try.ntmps29
  go_wp2_with fail
  go_quiet (fail)
  generalize hwa : w.alloc (.cells #[.int .i64 (i : Int), .int .i64 (j : Int)] 66) = wa at *
  have hA1 := Lib.hid (hAH.out.drewN nq)
  have hR1 := Lib.hid (hRH.out.block (w' := wa.drewN nq) (by rw [← hwa]; rfl))
  have hb1 := Lib.hid (hb0.out.drewN nq)
  have hQ1 := Lib.hid (hQH.out.block (w' := wa.drewN nq) (fun _ _ => rfl))
  have hx1 : (wa.drewN nq).cell? ⟨g, off, none⟩ = some (.int .i64 0) := hxH.out
  have hgl1 : g < (wa.drewN nq).heap.size := hglH.out
  clear s0 s1 hAH hRH hb0 hQH hxH hglH hwa hlook
  generalize wa.drewN nq = w1 at *
  generalize w.heap.size = ge at *
  obtain ⟨s0, s1⟩ := hA1.out.cells
  have r0 := hR1.out.cell (i := 0) (by simp)
  have r1 := hR1.out.cell (i := 1) (by simp)
  simp only [List.getElem_cons_zero, List.getElem_cons_succ] at r0 r1
  obtain ⟨w3, e3, hS3, hbl3, hx3⟩ := hA1.out.drew.popped hn (by omega) hi hj hqH.out hvH.out (hQ1.out.block (w' := w1.drew) (fun _ _ => rfl)) hx1 hMg hgl1
  have hb3 := Lib.hid (hbl3 w hb1.out.drew)
  rw [hmr.out] at e3
  unfold ch2 at e3
  clear hbl3 hb1 hA1 hR1 hQ1 hqH hvH hmr hgl1 hMg
  have hm0 := hm.1
  have hm1' := hm.2
  have hmis : Hid ((S.pop i j).mis j = S.mis j) := rfl
  have hres : Hid ((S.pop i j).less j = { S.pop i j with mis := up1 (S.pop i j).mis j (S.mis j - 1) }) := rfl
  clear hm
  generalize (S.pop i j).less j = R at *
  generalize S.mis j = y at *
  generalize S.pop i j = T at *
  by_cases hcap1 : cap = 1
  · subst hcap1
    have hm0' : m = 0 := by omega
    subst hm0'
    simp only [if_true, Nat.sub_self, Nat.zero_add] at e3 hm1 hnz
    go_wp2_with fail
    go_region
    clear s0 s1 r0 r1 e3
    obtain ⟨f3, hA3⟩ := hS3
    obtain ⟨s0, s1⟩ := hA3.cells
    obtain ⟨p0, p1, p2, p3, p4, p5⟩ := hA3.prc hj
    rw [hmis.out] at p4
    have f4 := hA3.prs.frozen (j * 6 + 4)
    have hA4 := hA3.setMis hj (y - 1)
    have hb4 := Lib.hid (hA3.blkP hb3.out (j * 6 + 4) (.int .i64 (y - 1)))
    have hS4 : SysT (w3.setCell ⟨P, j * 6 + 4, none⟩ (.int .i64 (y - 1))) B s P M n (c + 1) D R := ⟨f3, by rw [hres.out]; exact hA4⟩
    have hcall := Lib.hid (enter_any _ B s P M n (c + 1) D R hS4 j hj hn)
    clear hA3 hA4 hS4 p0 p1 p2 p3 p5 s1 hb3
    go_wp2_with fail
    refine hcall.out.mono ?_
    rintro e w5 ⟨rfl, hS5, hB5⟩
    have hS5H := Lib.hid (hS5.mono (show c + 1 ≤ c + 7 by omega))
    clear hS5
    go_wp2_with fail
    go_ret
    exact ⟨rfl, hS5H.out, hb4.out.trans hB5⟩
  · simp only [if_neg hcap1] at e3
    go_wp2_with fail
    go_region
    clear s0 s1 r0 r1 e3
    obtain ⟨f3, hA3⟩ := hS3
    obtain ⟨s0, s1⟩ := hA3.cells
    obtain ⟨p0, p1, p2, p3, p4, p5⟩ := hA3.prc hj
    rw [hmis.out] at p4
    have f4 := hA3.prs.frozen (j * 6 + 4)
    have hA4 := hA3.setMis hj (y - 1)
    have hb4 := Lib.hid (hA3.blkP hb3.out (j * 6 + 4) (.int .i64 (y - 1)))
    have hS4 : SysT (w3.setCell ⟨P, j * 6 + 4, none⟩ (.int .i64 (y - 1))) B s P M n (c + 1) D R := ⟨f3, by rw [hres.out]; exact hA4⟩
    have hcall := Lib.hid (enter_any _ B s P M n (c + 1) D R hS4 j hj hn)
    clear hA3 hA4 hS4 p0 p1 p2 p3 p5 s1 hb3
    go_wp2_with fail
    refine hcall.out.mono ?_
    rintro e w5 ⟨rfl, hS5, hB5⟩
    have hS5H := Lib.hid (hS5.mono (show c + 1 ≤ c + 7 by omega))
    clear hS5
    go_wp2_with fail
    go_ret
    exact ⟨rfl, hS5H.out, hb4.out.trans hB5⟩

set_option maxHeartbeats 4000000 in
theorem come_asked (w : World) (B s P M n c : Nat) (D : Nat → Nat) (S : TS) (hS : SysT w B s P M n c D S) (i j : Nat) (hi : i < n) (hj : j < n) (hn : n ≤ 6) (hc : c ≤ 80000) (x : Int) (r : List Int) (hq : S.q i j = x :: r) (hx0 : x ≠ 0) (hxb : 0 ≤ x ∧ x ≤ 1000) (hk : 0 ≤ S.clk j ∧ S.clk j ≤ 1000) (hl : ∀ a b, (S.q a b).length ≤ 900) :
    Calls Try.prog 29 #[.pointer (some ⟨s, 0, none⟩), .int .i64 (i : Int), .int .i64 (j : Int)] w (MovT B s P M n c D w ((S.pop i j).answer j i x) 0) := by
  have hlp : Hid (∀ a b, ((S.pop i j).q a b).length ≤ 900) := fun a b => by
    show (up2 S.q i j (S.q i j).tail a b).length ≤ 900
    by_cases e : a = i ∧ b = j
    · rw [e.1, e.2, up2_same]; have := hl i j; rw [List.length_tail]; omega
    · rw [up2_other _ _ e]; exact hl a b
  have hkH : Hid (0 ≤ (S.pop i j).clk j ∧ (S.pop i j).clk j ≤ 1000) := hk
  have hxn : (x == 0) = false := by simpa using hx0
  clear hk hx0
  obtain ⟨f, hA⟩ := hS
  have hA0 := hA.alloc (.cells #[.int .i64 (i : Int), .int .i64 (j : Int)] 66)
  have hR0 := Row.made w 66 [.int .i64 (i : Int), .int .i64 (j : Int)]
  have hb0 := Lib.hid ((BlT.refl B w).alloc hA.sz (.cells #[.int .i64 (i : Int), .int .i64 (j : Int)] 66))
  clear hA
  obtain ⟨s0, s1⟩ := hA0.cells
  have hlook := hA0.look hn hi hj
  obtain ⟨g, off, cap, hv, hcap, hcm, hx, hg, hgl, hMg, hQt⟩ := hA0.qshape hi hj hq
  rw [hv] at hlook
  unfold ch2 at hlook
  have hiI : (i : Int) < (n : Int) := by omega
  have hjI : (j : Int) < (n : Int) := by omega
  have hrl : r.length ≤ 900 := by have := hl i j; rw [hq] at this; simp at this; omega
  have hqH := Lib.hid hq
  have hRH := Lib.hid hR0
  have hAH := Lib.hid hA0
  have hQH := Lib.hid hQt
  have hvH := Lib.hid hv
  have hxH := Lib.hid hx
  have hglH := Lib.hid hgl
  have hm1 : (1 : Int) ≤ ((r.length + 1 : Nat) : Int) := by omega
  have hnz : (((r.length + 1 : Nat) : Int) == 0) = false := by simp; omega
  clear hA0 hR0 hv hq hl hQt hx hgl
  obtain ⟨m, hmr⟩ : ∃ m, Hid (r.length = m) := ⟨_, rfl⟩
  rw [hmr.out] at hlook hcap hrl hm1 hnz
  go_enter Try.func29, Try.ntmps29
  go_wp2_with fail
  go_quiet (fail)
  generalize hwa : w.alloc (.cells #[.int .i64 (i : Int), .int .i64 (j : Int)] 66) = wa at *
  have hA1 := Lib.hid (hAH.out.drewN nq)
  have hR1 := Lib.hid (hRH.out.block (w' := wa.drewN nq) (by rw [← hwa]; rfl))
  have hb1 := Lib.hid (hb0.out.drewN nq)
  have hQ1 := Lib.hid (hQH.out.block (w' := wa.drewN nq) (fun _ _ => rfl))
  have hx1 : (wa.drewN nq).cell? ⟨g, off, none⟩ = some (.int .i64 x) := hxH.out
  have hgl1 : g < (wa.drewN nq).heap.size := hglH.out
  clear s0 s1 hAH hRH hb0 hQH hxH hglH hwa hlook
  generalize wa.drewN nq = w1 at *
  generalize w.heap.size = ge at *
  obtain ⟨s0, s1⟩ := hA1.out.cells
  have r0 := hR1.out.cell (i := 0) (by simp)
  have r1 := hR1.out.cell (i := 1) (by simp)
  simp only [List.getElem_cons_zero, List.getElem_cons_succ] at r0 r1
  obtain ⟨w3, e3, hS3, hbl3, hx3⟩ := hA1.out.drew.popped hn (by omega) hi hj hqH.out hvH.out (hQ1.out.block (w' := w1.drew) (fun _ _ => rfl)) hx1 hMg hgl1
  have hb3 := Lib.hid (hbl3 w hb1.out.drew)
  rw [hmr.out] at e3
  unfold ch2 at e3
  clear hbl3 hb1 hA1 hR1 hQ1 hqH hvH hmr hgl1 hMg
  have hcall := Lib.hid (answer_any w3 B s P M n (c + 1) D _ hS3 j i hj hi hn (by omega) x hkH.out hxb hlp.out)
  generalize (S.pop i j).answer j i x = R at *
  clear hkH hlp hS3
  by_cases hcap1 : cap = 1
  · subst hcap1
    have hm0' : m = 0 := by omega
    subst hm0'
    simp only [if_true, Nat.sub_self, Nat.zero_add] at e3 hm1 hnz
    go_wp2_with fail
    go_region
    clear s0 s1 r0 r1 e3
    go_wp2_with fail
    refine hcall.out.mono ?_
    rintro e w5 ⟨rfl, hS5, hB5⟩
    have hS5H := Lib.hid (hS5.mono (show c + 1 + 1 ≤ c + 7 by omega))
    clear hS5
    go_wp2_with fail
    go_ret
    exact ⟨rfl, hS5H.out, hb3.out.trans hB5⟩
  · simp only [if_neg hcap1] at e3
    go_wp2_with fail
    go_region
    clear s0 s1 r0 r1 e3
    go_wp2_with fail
    refine hcall.out.mono ?_
    rintro e w5 ⟨rfl, hS5, hB5⟩
    have hS5H := Lib.hid (hS5.mono (show c + 1 + 1 ≤ c + 7 by omega))
    clear hS5
    go_wp2_with fail
    go_ret
    exact ⟨rfl, hS5H.out, hb3.out.trans hB5⟩

#print axioms come_no
#print axioms come_reply
#print axioms come_asked
end Go.Proofs.Ythnmppajakdcaaa
