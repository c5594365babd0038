/-
  The contracts of (*system).want, leave, come of package token.
-/
import Derived.Test.YtejckoffllhjcaaKeq
import Derived.BigRegion
namespace Go.Proofs.Ytejckoffllhjcaa
open Go.RowKit Go.Maps
set_option linter.unusedVariables false

/-- What a move comes to. -/
def MovK (B s P M n c : Nat) (w : World) (T : KS) (cd : Int) (e : Ending) (w' : World) : Prop := e = .returned (.int .i64 cd) ∧ SysK w' B s P M n (c + 7) T ∧ BlK B w w'

set_option maxHeartbeats 1600000 in
theorem want_all (w : World) (B s P M n c : Nat) (S : KS) (hS : SysK w B s P M n c S) (hO : OkK n S 800) (i : Nat) (hi : i < n) (hn : n ≤ 6) (hc : c ≤ 80000) (R : KS × Int) (hR : R = if S.ins i = true ∨ i ∈ S.row i then (S, 7) else (S.enq i i, 0)) :
    Calls Try.prog 34 #[.pointer (some ⟨s, 0, none⟩), .int .i64 (i : Int)] w (MovK B s P M n c w R.1 R.2) := by
  have hSH := Lib.hid (hS.mono (show c ≤ c + 7 by omega))
  have hin := Lib.hid (inside_any w B s P M n c S hS i hi hn)
  have hwt := Lib.hid (fun C h => wants_any w B s P M n c S hS i hi hn (Nat.le_trans (hO.row i) (by omega)) C h)
  have henq := Lib.hid (enqueue_any w B s P M n c S hS hO i i hi hi hn (by omega))
  clear hS hO
  cases h1 : S.ins i with
  | true =>
    rw [if_pos (.inl h1)] at hR
    subst hR
    rw [h1] at hin
    clear hwt henq h1
    go_enter Try.func34, Try.ntmps34
    go_wp2_with fail
    refine hin.out.mono ?_
    rintro e w1 ⟨rfl, rfl⟩
    go_wp2_with fail
    go_ret
    exact ⟨rfl, hSH.out, BlK.refl _ _⟩
  | false =>
    rw [h1] at hin
    by_cases h2 : i ∈ S.row i
    · rw [if_pos (.inr h2)] at hR
      subst hR
      have hw := Lib.hid (hwt.out true ⟨fun _ => h2, fun _ => rfl⟩)
      clear hwt henq h1 h2
      go_enter Try.func34, Try.ntmps34
      go_wp2_with fail
      refine hin.out.mono ?_
      rintro e w1 ⟨rfl, rfl⟩
      go_wp2_with fail
      refine hw.out.mono ?_
      rintro e w1 ⟨rfl, rfl⟩
      go_wp2_with fail
      go_ret
      exact ⟨rfl, hSH.out, BlK.refl _ _⟩
    · rw [if_neg (by rw [h1]; simpa using h2)] at hR
      subst hR
      have hw := Lib.hid (hwt.out false ⟨(nomatch ·), fun h => absurd h h2⟩)
      clear hwt h1 h2
      go_enter Try.func34, Try.ntmps34
      go_wp2_with fail
      refine hin.out.mono ?_
      rintro e w1 ⟨rfl, rfl⟩
      go_wp2_with fail
      refine hw.out.mono ?_
      rintro e w1 ⟨rfl, rfl⟩
      go_wp2_with fail
      refine henq.out.mono ?_
      rintro e w2 ⟨rfl, hS2, hB2⟩
      have hS2H := Lib.hid (hS2.mono (show c + 3 ≤ c + 7 by omega))
      clear hS2
      go_wp2_with fail
      go_ret
      exact ⟨rfl, hS2H.out, hB2⟩

set_option maxHeartbeats 1600000 in
theorem leave_all (w : World) (B s P M n c : Nat) (S : KS) (hS : SysK w B s P M n c S) (hO : OkK n S 800) (i : Nat) (hi : i < n) (hn : n ≤ 6) (hc : c ≤ 80000) (R : KS × Int) (hR : R = if S.ins i = true then (S.leave i, 0) else (S, 7)) :
    Calls Try.prog 35 #[.pointer (some ⟨s, 0, none⟩), .int .i64 (i : Int)] w (MovK B s P M n c w R.1 R.2) := by
  have hSH := Lib.hid (hS.mono (show c ≤ c + 7 by omega))
  have hin := Lib.hid (inside_any w B s P M n c S hS i hi hn)
  cases h1 : S.ins i with
  | true =>
    rw [if_pos h1] at hR
    subst hR
    rw [h1] at hin
    obtain ⟨D, f, hA⟩ := hS
    obtain ⟨s0, s1⟩ := hA.cells
    obtain ⟨p0, p1, p2⟩ := hA.prc hi
    have hiI : (i : Int) < (n : Int) := by omega
    have f2 := hA.prs.frozen (i * 3 + 2)
    have hA1 := hA.setIns hi false
    have hb1 := Lib.hid (hA.blkP (BlK.refl B w) (i * 3 + 2) (.bool false))
    have hS1 : SysK (w.setCell ⟨P, i * 3 + 2, none⟩ (.bool false)) B s P M n c (S.off i) := ⟨_, _, hA1⟩
    have hO1 : OkK n (S.off i) 900 := ⟨hO.ptr, hO.mem, fun a b => Nat.le_trans (hO.len a b) (by omega), fun a => Nat.le_trans (hO.row a) (by omega)⟩
    have hsrv := Lib.hid (serve_any _ B s P M n c (S.off i) hS1 hO1 i hi hn (by omega))
    have hdef : Hid (S.leave i = (S.off i).serve i) := rfl
    clear hA hA1 hS1 hO hO1 h1 p0 p1 s1 hSH
    go_enter Try.func35, Try.ntmps35
    go_wp2_with fail
    refine hin.out.mono ?_
    rintro e w1 ⟨rfl, rfl⟩
    go_wp2_with fail
    refine hsrv.out.mono ?_
    rintro e w2 ⟨rfl, hS2, hB2⟩
    have hS2H := Lib.hid (hS2.mono (show c + 2 ≤ c + 7 by omega))
    clear hS2
    go_wp2_with fail
    go_ret
    exact ⟨rfl, by rw [hdef.out]; exact hS2H.out, hb1.out.trans hB2⟩
  | false =>
    rw [if_neg (by rw [h1]; simp)] at hR
    subst hR
    rw [h1] at hin
    clear hS hO h1
    go_enter Try.func35, Try.ntmps35
    go_wp2_with fail
    refine hin.out.mono ?_
    rintro e w1 ⟨rfl, rfl⟩
    go_wp2_with fail
    go_ret
    exact ⟨rfl, hSH.out, BlK.refl _ _⟩

/-- What lies ahead of a receipt: the slice on the channel, and where its first message is. -/
theorem SysKA.qshape {w : World} {B s P M n c : Nat} {D : Nat → Value} {f : Nat → Nat → Option Value} {S : KS} (h : SysKA w B s P M n c D f S) {i j : Nat} (hi : i < n) (hj : j < n) {x : Int} {r : List Int} (hq : S.q i j = x :: r) :
    ∃ g off cap, vqM f i j = .slice (some ⟨g, off, none⟩) (r.length + 1) cap ∧ r.length + 1 ≤ cap ∧ cap ≤ maxLen ∧ w.cell? ⟨g, off, none⟩ = some (.int .i64 x) ∧ B ≤ g ∧ g < w.heap.size ∧ M ≠ g ∧
      QueT 78 w B (.slice (if cap = 1 then some ⟨g, off, none⟩ else some ⟨g, off + 1, none⟩) r.length (cap - 1)) r := by
  have hQ := h.que i j hi hj
  obtain ⟨A, cap, hv, h1, h2, h3⟩ := hQ.shape
  rw [hq] at h3 hv h1
  obtain ⟨g, off, rfl, h4⟩ := h3 0 (by simp)
  have hlt := hQ.lt (g := g) (by rw [hv]; rfl)
  obtain ⟨es, cc, hM⟩ := h.map.obj
  have hne := hQ.ne_map hM
  rw [hv] at hne hQ
  rw [hq] at hQ
  have ht := hQ.tail
  refine ⟨g, off, cap, hv, h1, h2, by simpa using h4, hlt.1, hlt.2, fun e => hne (by simp [Value.ownBlock, e]), ?_⟩
  simpa [Addr.add] using ht

def chA (i j : Nat) : Value := .agg #[.int .i64 (i : Int), .int .i64 (j : Int)]
set_option maxHeartbeats 1600000 in
theorem come_no (w : World) (B s P M n c : Nat) (S : KS) (hS : SysK w B s P M n c S) (i j : Nat) (hi : i < n) (hj : j < n) (hn : n ≤ 6) (hq : S.q i j = []) :
    Calls Try.prog 36 #[.pointer (some ⟨s, 0, none⟩), chA i j] w (MovK B s P M n c w S 5) := by
  obtain ⟨D, f, hA⟩ := hS
  have hA0 := hA.alloc (.cells #[.int .i64 (i : Int), .int .i64 (j : Int)] 74)
  have hb0 := Lib.hid ((BlK.refl B w).alloc hA.sz (.cells #[.int .i64 (i : Int), .int .i64 (j : Int)] 74))
  obtain ⟨s0, s1⟩ := hA0.cells
  have hlook := hA0.look hn hi hj
  obtain ⟨A, cap, hv, _⟩ := (hA0.que i j hi hj).shape
  rw [hv, hq] at hlook
  simp only [List.length_nil] at hlook
  unfold chM at hlook
  have hAH := Lib.hid (hA0.mono (show c ≤ c + 7 by omega))
  clear hA hA0 hv hq
  unfold chA
  go_enter Try.func36, Try.ntmps36
  go_wp2_with fail
  go_quiet (fail)
  go_wp2_with fail
  go_ret
  exact ⟨rfl, ⟨_, _, hAH.out.drewN _⟩, hb0.out.drewN _⟩

/-- The first message is taken off: the store into the map. -/
theorem SysKA.popped {W : World} {B s P M n c : Nat} {D : Nat → Value} {f : Nat → Nat → Option Value} {S : KS} (h : SysKA W B s P M n c D f S) (hn : n ≤ 6) (hc : c ≤ 100000) {i j : Nat} (hi : i < n) (hj : j < n) {x : Int} {r : List Int} (hq : S.q i j = x :: r) {g off cap : Nat} (hv : vqM f i j = .slice (some ⟨g, off, none⟩) (r.length + 1) cap)
    (hQ : QueT 78 W B (.slice (if cap = 1 then some ⟨g, off, none⟩ else some ⟨g, off + 1, none⟩) r.length (cap - 1)) r) (hx : W.cell? ⟨g, off, none⟩ = some (.int .i64 x)) (hMg : M ≠ g) (hgl : g < W.heap.size) :
    ∃ w3, (Instr.mapUpdate 66 (.map (some M)) (chM i j) (.slice (if cap = 1 then some ⟨g, off, none⟩ else some ⟨g, off + 1, none⟩) r.length (cap - 1))).run Try.prog W = .ok () w3 ∧
      SysK w3 B s P M n (c + 1) (S.pop i j) ∧ (∀ w0, BlK B w0 W → BlK B w0 w3) ∧ w3.cell? ⟨g, off, none⟩ = some (.int .i64 x) ∧ W.grownBy w3 (some M) := by
  obtain ⟨w3, e3, hm3, g3⟩ := h.map.update (by unfold maxLen; omega) (i := i) (j := j) (by omega) (by omega) (.slice (if cap = 1 then some ⟨g, off, none⟩ else some ⟨g, off + 1, none⟩) r.length (cap - 1))
  have hob : (Value.slice (if cap = 1 then some ⟨g, off, none⟩ else some ⟨g, off + 1, none⟩) r.length (cap - 1)).ownBlock = (vqM f i j).ownBlock := by
    rw [hv]
    split <;> rfl
  have hne : (Value.slice (if cap = 1 then some ⟨g, off, none⟩ else some ⟨g, off + 1, none⟩) r.length (cap - 1)).ownBlock ≠ some M := by
    rw [hob, hv]
    intro e
    injection e with e
    exact hMg e.symm
  have hS3 := h.put (T := S.pop i j) hi hj (hQ.kept g3 (.inr hne)) hm3 (fun b _ hb hbM _ => g3.block b hb (fun e => hbM (by injection e))) (.inl hob) ⟨rfl, rfl, rfl, by
    show up2 S.q i j (S.q i j).tail = _
    rw [hq]; rfl⟩
  exact ⟨w3, e3, ⟨_, _, hS3⟩, fun w0 hb => hb.grownM g3 h.map h.lowM h.sz, g3.cell hx (fun e => hMg (by injection e with e; exact e.symm)), g3⟩

/-- Behind the receipt: what the walk finds, in whatever world. -/
structure CmK (w3 w : World) (B s P M n c ge i j : Nat) (g off : Nat) (x : Int) (T : KS) : Prop where
  sys : SysK w3 B s P M n c T
  blt : BlK B w w3
  cx : w3.cell? ⟨g, off, none⟩ = some (.int .i64 x)
  r0 : w3.cell? ⟨ge, 0, none⟩ = some (.int .i64 (i : Int))
  r1 : w3.cell? ⟨ge, 1, none⟩ = some (.int .i64 (j : Int))
  ro : Row w3 ge 74 [.int .i64 (i : Int), .int .i64 (j : Int)]

set_option maxHeartbeats 4000000 in
theorem come_ask (w : World) (B s P M n c : Nat) (S : KS) (hS : SysK w B s P M n c S) (hO : OkK n S 800) (i j : Nat) (hi : i < n) (hj : j < n) (hn : n ≤ 6) (hc : c ≤ 70000) (r : List Int) (hq : S.q i j = 0 :: r) :
    Calls Try.prog 36 #[.pointer (some ⟨s, 0, none⟩), chA i j] w (MovK B s P M n c w ((S.pop i j).enq j i) 0) := by
  have hOp : Hid (OkK n (S.pop i j) 800) := ⟨hO.ptr, hO.mem, fun a b => by
    show (up2 S.q i j (S.q i j).tail a b).length ≤ 800
    by_cases e : a = i ∧ b = j
    · rw [e.1, e.2, up2_same]; have := hO.len i j; rw [List.length_tail]; omega
    · rw [up2_other _ _ e]; exact hO.len a b, hO.row⟩
  obtain ⟨D, f, hA⟩ := hS
  have hA0 := hA.alloc (.cells #[.int .i64 (i : Int), .int .i64 (j : Int)] 74)
  have hR0 := Row.made w 74 [.int .i64 (i : Int), .int .i64 (j : Int)]
  have hb0 := Lib.hid ((BlK.refl B w).alloc hA.sz (.cells #[.int .i64 (i : Int), .int .i64 (j : Int)] 74))
  clear hA
  obtain ⟨s0, s1⟩ := hA0.cells
  have hlook := hA0.look hn hi hj
  obtain ⟨g, off, cap, hv, hcap, hcm, hx, hg, hgl, hMg, hQt⟩ := hA0.qshape hi hj hq
  rw [hv] at hlook
  unfold chM at hlook
  have hrl : r.length ≤ 900 := by have := hO.len i j; rw [hq] at this; simp at this; omega
  have hqH := Lib.hid hq
  have hRH := Lib.hid hR0
  have hAH := Lib.hid hA0
  have hQH := Lib.hid hQt
  have hvH := Lib.hid hv
  have hxH := Lib.hid hx
  have hglH := Lib.hid hgl
  have hm1 : (1 : Int) ≤ ((r.length + 1 : Nat) : Int) := by omega
  have hnz : (((r.length + 1 : Nat) : Int) == 0) = false := by simp; omega
  clear hA0 hR0 hv hq hO hQt hx hgl
  obtain ⟨m, hmr⟩ : ∃ m, Hid (r.length = m) := ⟨_, rfl⟩
  rw [hmr.out] at hlook hcap hrl hm1 hnz
  unfold chA
  go_enter Try.func36, Try.ntmps36
  go_wp2_with fail
  go_quiet (fail)
  generalize hwa : w.alloc (.cells #[.int .i64 (i : Int), .int .i64 (j : Int)] 74) = wa at *
  have hA1 := Lib.hid (hAH.out.drewN nq)
  have hR1 := Lib.hid (hRH.out.block (w' := wa.drewN nq) (by rw [← hwa]; rfl))
  have hb1 := Lib.hid (hb0.out.drewN nq)
  have hQ1 := Lib.hid (hQH.out.block (w' := wa.drewN nq) (fun _ _ => rfl))
  have hx1 : (wa.drewN nq).cell? ⟨g, off, none⟩ = some (.int .i64 0) := hxH.out
  have hgl1 : g < (wa.drewN nq).heap.size := hglH.out
  clear s0 s1 hAH hRH hb0 hQH hxH hglH hwa hlook
  generalize wa.drewN nq = w1 at *
  generalize w.heap.size = ge at *
  obtain ⟨s0, s1⟩ := hA1.out.cells
  have r0 := hR1.out.cell (i := 0) (by simp)
  have r1 := hR1.out.cell (i := 1) (by simp)
  simp only [List.getElem_cons_zero, List.getElem_cons_succ] at r0 r1
  obtain ⟨w3, e3, hS3, hbl3, hx3, hg3⟩ := hA1.out.drew.popped hn (by omega) hi hj hqH.out hvH.out (hQ1.out.block (w' := w1.drew) (fun _ _ => rfl)) hx1 hMg hgl1
  have hgeM : ge ≠ M := fun e => hA1.out.map.ne_row hR1.out e.symm
  have hR3 : Row w3 ge 74 [.int .i64 (i : Int), .int .i64 (j : Int)] := (hR1.out.block (w' := w1.drew) rfl).grown hg3 (fun e => hgeM (by injection e with e))
  have q0 := hR3.cell (i := 0) (by simp)
  have q1 := hR3.cell (i := 1) (by simp)
  simp only [List.getElem_cons_zero, List.getElem_cons_succ] at q0 q1
  have hb3 := Lib.hid (hbl3 w hb1.out.drew)
  rw [hmr.out] at e3
  unfold chM at e3
  clear hbl3 hb1 hA1 hR1 hQ1 hqH hvH hmr hgl1 hMg hg3 hR3 hgeM
  have hcall := Lib.hid (enqueue_any w3 B s P M n (c + 1) _ hS3 hOp.out j i hj hi hn (by omega))
  generalize (S.pop i j).enq j i = R at *
  clear hOp hS3
  by_cases hcap1 : cap = 1
  · subst hcap1
    have hm0' : m = 0 := by omega
    subst hm0'
    simp only [if_true, Nat.sub_self, Nat.zero_add] at e3 hm1 hnz
    go_wp2_with fail
    go_region
    clear s0 s1 r0 r1 e3
    go_wp2_with fail
    refine hcall.out.mono ?_
    rintro e w5 ⟨rfl, hS5, hB5⟩
    have hS5H := Lib.hid (hS5.mono (show c + 1 + 3 ≤ c + 7 by omega))
    clear hS5
    go_wp2_with fail
    go_ret
    exact ⟨rfl, hS5H.out, hb3.out.trans hB5⟩
  · simp only [if_neg hcap1] at e3
    go_wp2_with fail
    go_region
    clear s0 s1 r0 r1 e3
    go_wp2_with fail
    refine hcall.out.mono ?_
    rintro e w5 ⟨rfl, hS5, hB5⟩
    have hS5H := Lib.hid (hS5.mono (show c + 1 + 3 ≤ c + 7 by omega))
    clear hS5
    go_wp2_with fail
    go_ret
    exact ⟨rfl, hS5H.out, hb3.out.trans hB5⟩

set_option maxHeartbeats 4000000 in
theorem come_tok (w : World) (B s P M n c : Nat) (S : KS) (hS : SysK w B s P M n c S) (hO : OkK n S 800) (i j : Nat) (hi : i < n) (hj : j < n) (hn : n ≤ 6) (hc : c ≤ 70000) (x : Int) (r : List Int) (hq : S.q i j = x :: r) (hx0 : x ≠ 0) :
    Calls Try.prog 36 #[.pointer (some ⟨s, 0, none⟩), chA i j] w (MovK B s P M n c w (((S.pop i j).aim j j).serve j) 0) := by
  have hxn : (x == 0) = false := by simpa using hx0
  have hOp : Hid (OkK n ((S.pop i j).aim j j) 900) := ⟨fun a ha => by
    show up1 S.ptr j j a < n
    by_cases e : a = j
    · rw [e, up1_same]; exact hj
    · rw [up1_other _ _ e]; exact hO.ptr a ha, hO.mem, fun a b => by
    show (up2 S.q i j (S.q i j).tail a b).length ≤ 900
    by_cases e : a = i ∧ b = j
    · rw [e.1, e.2, up2_same]; have := hO.len i j; rw [List.length_tail]; omega
    · rw [up2_other _ _ e]; have := hO.len a b; omega, fun a => Nat.le_trans (hO.row a) (by omega)⟩
  obtain ⟨D, f, hA⟩ := hS
  have hA0 := hA.alloc (.cells #[.int .i64 (i : Int), .int .i64 (j : Int)] 74)
  have hR0 := Row.made w 74 [.int .i64 (i : Int), .int .i64 (j : Int)]
  have hb0 := Lib.hid ((BlK.refl B w).alloc hA.sz (.cells #[.int .i64 (i : Int), .int .i64 (j : Int)] 74))
  clear hA hx0
  obtain ⟨s0, s1⟩ := hA0.cells
  have hlook := hA0.look hn hi hj
  obtain ⟨g, off, cap, hv, hcap, hcm, hx, hg, hgl, hMg, hQt⟩ := hA0.qshape hi hj hq
  rw [hv] at hlook
  unfold chM at hlook
  have hjI : (j : Int) < (n : Int) := by omega
  have hrl : r.length ≤ 900 := by have := hO.len i j; rw [hq] at this; simp at this; omega
  have hqH := Lib.hid hq
  have hRH := Lib.hid hR0
  have hAH := Lib.hid hA0
  have hQH := Lib.hid hQt
  have hvH := Lib.hid hv
  have hxH := Lib.hid hx
  have hglH := Lib.hid hgl
  have hm1 : (1 : Int) ≤ ((r.length + 1 : Nat) : Int) := by omega
  have hnz : (((r.length + 1 : Nat) : Int) == 0) = false := by simp; omega
  clear hA0 hR0 hv hq hO hQt hx hgl
  obtain ⟨m, hmr⟩ : ∃ m, Hid (r.length = m) := ⟨_, rfl⟩
  rw [hmr.out] at hlook hcap hrl hm1 hnz
  unfold chA
  go_enter Try.func36, Try.ntmps36
  go_wp2_with fail
  go_quiet (fail)
  generalize hwa : w.alloc (.cells #[.int .i64 (i : Int), .int .i64 (j : Int)] 74) = wa at *
  have hA1 := Lib.hid (hAH.out.drewN nq)
  have hR1 := Lib.hid (hRH.out.block (w' := wa.drewN nq) (by rw [← hwa]; rfl))
  have hb1 := Lib.hid (hb0.out.drewN nq)
  have hQ1 := Lib.hid (hQH.out.block (w' := wa.drewN nq) (fun _ _ => rfl))
  have hx1 : (wa.drewN nq).cell? ⟨g, off, none⟩ = some (.int .i64 x) := hxH.out
  have hgl1 : g < (wa.drewN nq).heap.size := hglH.out
  clear s0 s1 hAH hRH hb0 hQH hxH hglH hwa hlook
  generalize wa.drewN nq = w1 at *
  generalize w.heap.size = ge at *
  obtain ⟨s0, s1⟩ := hA1.out.cells
  have r0 := hR1.out.cell (i := 0) (by simp)
  have r1 := hR1.out.cell (i := 1) (by simp)
  simp only [List.getElem_cons_zero, List.getElem_cons_succ] at r0 r1
  obtain ⟨w3, e3, hS3, hbl3, hx3, hg3⟩ := hA1.out.drew.popped hn (by omega) hi hj hqH.out hvH.out (hQ1.out.block (w' := w1.drew) (fun _ _ => rfl)) hx1 hMg hgl1
  have hgeM : ge ≠ M := fun e => hA1.out.map.ne_row hR1.out e.symm
  have hR3 : Row w3 ge 74 [.int .i64 (i : Int), .int .i64 (j : Int)] := (hR1.out.block (w' := w1.drew) rfl).grown hg3 (fun e => hgeM (by injection e with e))
  have q0 := hR3.cell (i := 0) (by simp)
  have q1 := hR3.cell (i := 1) (by simp)
  simp only [List.getElem_cons_zero, List.getElem_cons_succ] at q0 q1
  have hb3 := Lib.hid (hbl3 w hb1.out.drew)
  rw [hmr.out] at e3
  unfold chM at e3
  have hR3H := Lib.hid hR3
  clear hbl3 hb1 hA1 hR1 hQ1 hqH hvH hmr hgl1 hMg hg3 hR3 hgeM
  obtain ⟨D3, f3, hA3⟩ := hS3
  obtain ⟨u0, u1⟩ := hA3.cells
  obtain ⟨p0, p1, p2⟩ := hA3.prc hj
  have fz := hA3.prs.frozen (j * 3)
  have hA4 : SysKA ((w3.drew).setCell ⟨P, j * 3, none⟩ (.int .i64 (j : Int))) B s P M n (c + 1) D3 f3 ((S.pop i j).aim j j) := hA3.drew.setPtr hj j
  have hb4 : Hid (BlK B w ((w3.drew).setCell ⟨P, j * 3, none⟩ (.int .i64 (j : Int)))) := hA3.drew.blkP hb3.out.drew (j * 3) (.int .i64 (j : Int))
  have hS4 : SysK ((w3.drew).setCell ⟨P, j * 3, none⟩ (.int .i64 (j : Int))) B s P M n (c + 1) ((S.pop i j).aim j j) := ⟨_, _, hA4⟩
  have hgeP : ge ≠ P := by
    obtain ⟨xs, hP⟩ := hA3.prs.row
    exact rowG_ne hR3H.out hP (by decide)
  have hR4 : Row ((w3.drew).setCell ⟨P, j * 3, none⟩ (.int .i64 (j : Int))) ge 74 [.int .i64 (i : Int), .int .i64 (j : Int)] := (hR3H.out.block (w' := w3.drew) rfl).far (p := ⟨P, j * 3, none⟩) hgeP _
  have v1 := hR4.cell (i := 1) (by simp)
  simp only [List.getElem_cons_zero, List.getElem_cons_succ] at v1
  have hcall := Lib.hid (serve_any _ B s P M n (c + 1) _ hS4 hOp.out j hj hn (by omega))
  generalize ((S.pop i j).aim j j).serve j = R at *
  clear hOp hA3 hA4 hS4 hR4 hR3H p1 p2 hb3 u1
  by_cases hcap1 : cap = 1
  · subst hcap1
    have hm0' : m = 0 := by omega
    subst hm0'
    simp only [if_true, Nat.sub_self, Nat.zero_add] at e3 hm1 hnz
    go_wp2_with fail
    go_region
    clear s0 s1 r0 r1 e3
    go_wp2_with fail
    go_region
    go_wp2_with fail
    refine hcall.out.mono ?_
    rintro e w5 ⟨rfl, hS5, hB5⟩
    have hS5H := Lib.hid (hS5.mono (show c + 1 + 2 ≤ c + 7 by omega))
    clear hS5
    go_wp2_with fail
    go_ret
    exact ⟨rfl, hS5H.out, hb4.out.trans hB5⟩
  · simp only [if_neg hcap1] at e3
    go_wp2_with fail
    go_region
    clear s0 s1 r0 r1 e3
    go_wp2_with fail
    go_region
    go_wp2_with fail
    refine hcall.out.mono ?_
    rintro e w5 ⟨rfl, hS5, hB5⟩
    have hS5H := Lib.hid (hS5.mono (show c + 1 + 2 ≤ c + 7 by omega))
    clear hS5
    go_wp2_with fail
    go_ret
    exact ⟨rfl, hS5H.out, hb4.out.trans hB5⟩

theorem come_all (w : World) (B s P M n c : Nat) (S : KS) (hS : SysK w B s P M n c S) (hO : OkK n S 800) (i j : Nat) (hi : i < n) (hj : j < n) (hn : n ≤ 6) (hc : c ≤ 70000) (R : KS × Int) (hR : R = if S.q i j = [] then (S, 5) else (S.come i j, 0)) :
    Calls Try.prog 36 #[.pointer (some ⟨s, 0, none⟩), chA i j] w (MovK B s P M n c w R.1 R.2) := by
  cases e : S.q i j with
  | nil =>
    rw [if_pos e] at hR
    subst hR
    exact come_no w B s P M n c S hS i j hi hj hn e
  | cons x r =>
    rw [if_neg (by rw [e]; simp)] at hR
    subst hR
    have hcm : S.come i j = if x = 0 then (S.pop i j).enq j i else ((S.pop i j).aim j j).serve j := by
      unfold KS.come
      rw [e]; rfl
    rw [hcm]
    by_cases hx : x = 0
    · rw [if_pos hx]
      subst hx
      exact come_ask w B s P M n c S hS hO i j hi hj hn hc r e
    · rw [if_neg hx]
      exact come_tok w B s P M n c S hS hO i j hi hj hn hc x r e hx

#print axioms want_all
#print axioms leave_all
#print axioms come_all
end Go.Proofs.Ytejckoffllhjcaa
