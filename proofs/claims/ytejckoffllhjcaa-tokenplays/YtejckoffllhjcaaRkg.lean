/-
  The contracts of beaconryref.Token's closures. (GENERATED: gen/rkg.py.)
-/
import Derived.Test.YtejckoffllhjcaaRkl
import Derived.Deep.RegionHeld3
import Derived.BigQuiet
import Derived.BigRegion
namespace Go.Proofs.Ytejckoffllhjcaa
open Go.RowKit Go.Maps
set_option linter.unusedVariables false
set_option linter.unusedSimpArgs false

/-- 'append(v, m)', a letter. -/
theorem wpList_append_let {w : World} {ops : Array Oper} {rest : List Oper} {o : Oper} {a : Act} {Q : Exit → Act → World → Prop} (hgd : o.guard = none) (s x : Operand)
    (ho : o.op = .call { callee := .builtin .append, args := #[s, x], argTypes := #[50, 50] })
    (j0 : TypeInfo) (hJi : Try.prog.info? 52 = some j0) (hJz : j0.zero = some (.agg #[.int .i64 0, .int .i64 0, .int .i64 0])) (hJs : j0.size = 3) (hJb : j0.bytes = 24)
    (B : Nat) (v : Value) (X : List Lt) (m : Lt) (hs : a.eval s = v) (hown : OwnL w B v X) (ad : Addr) (hx : a.eval x = .slice (some ad) 1 1) (hnews : ∀ j u, (cellsL m)[j]? = some u → w.cell? (ad.add j) = some u)
    (hlen : X.length ≤ 10000) (hbase : B ≤ w.heap.size)
    (h : ∀ v' w', OwnL w' B v' (X ++ [m]) → w.grownBy w' v.ownBlock → wpList Try.prog ops Q rest (a.put o.dst v') w') : wpList Try.prog ops Q (o :: rest) a w := by
  obtain ⟨v', w', hr, h2, h3, h4, h5⟩ := run_append_own_at (P := Try.prog) w B 50 o.type 52 j0 _ 3 24 Try.underlying50 hJi hJz hJs hJb rfl (by decide) v X.length (flatL X) hown ad 1 1 (cellsL m) rfl hnews (by simp [cellsL, Value.oneCell']) (by unfold maxLen; omega) (by omega) hbase
  refine wpList_plain hgd fun K hK => ?_
  unfold Oper.wp execOp
  simp only [ho, resolve, invoke, builtin, Sem.run_bind, Sem.run_pure, Result.andThen_ok, List.map_toArray, List.map_cons, List.map_nil, hs, hx, hr]
  refine hK _ _ (h v' w' ?_ h3)
  unfold OwnL
  rw [flatL_append, flatL_one, List.length_append]
  exact h2
theorem ownsG_low {w : World} {B C : Nat} {e : TypeId} {size n : Nat} {v : Value} {xs : List Value} (h : w.ownsRow C e size v n xs) (hB : B ≤ C) : w.ownsRow B e size v n xs := by
  refine ⟨h.1, ?_⟩
  rcases h.2 with h9 | ⟨g, cap, cur, hv, hb', rest⟩
  · exact .inl h9
  · exact .inr ⟨g, cap, cur, hv, Nat.le_trans hB hb', rest⟩

def GvK (B n : Nat) (b : KB) (N : Nat) (cs : List Int) (w : World) (T : KS) (e : Ending) (w' : World) : Prop := e = .returned (.tuple #[]) ∧ RkS w' B n b T N cs ∧ BlM B w w'

set_option maxHeartbeats 4000000 in
theorem give_none (w : World) (B n : Nat) (b : KB) (S : KS) (N : Nat) (cs : List Int) (h : RkS w B n b S N cs) (i : Nat) (hi : i < n) (hn : n ≤ 6) (hno : S.ptr i ≠ i ∨ S.ins i = true ∨ S.row i = []) :
    Calls Try.prog 22 #[.int .i64 (i : Int), .pointer (some ⟨b.bh, 0, none⟩), .pointer (some ⟨b.bi, 0, none⟩), .pointer (some ⟨b.br, 0, none⟩), .pointer (some ⟨b.bp, 0, none⟩), .pointer (some ⟨b.bw, 0, none⟩)] w (GvK B n b (N + 2) cs w S) := by
  have hSH := Lib.hid (h.more (show N ≤ N + 2 by omega))
  obtain ⟨vs, vl, L, vc, h, hRL, hL⟩ := h
  obtain ⟨x0, x1, x2, x3, x4, x5⟩ := h.vars
  have a0 := BRowG.at_ h.rA hi
  have i0 := BRowG.at_ h.rI hi
  have h0 := h.hcell hi
  have hiI : (i : Int) < (n : Int) := by omega
  by_cases hp : S.ptr i = i
  · rw [show holdB S i = true from decide_eq_true hp] at a0
    cases hin : S.ins i with
    | true =>
      rw [hin] at i0
      clear h hno
      go_enter Try.func22, Try.ntmps22
      go_wp2_with fail
      (try simp only [Exit.inBlock, Exit.then])
      refine bodyPost_ret (results_none rfl _ _ _) rfl ?_
      exact ⟨rfl, hSH.out, BlM.refl _ _⟩
    | false =>
      rw [hin] at i0
      have hr : S.row i = [] := by
        rcases hno with h | h | h
        · exact absurd hp h
        · rw [hin] at h; cases h
        · exact h
      have hfam := h.fam i hi
      rw [show rwK S i = [] by unfold rwK; rw [hr]; rfl] at hfam
      obtain ⟨Aq, cap, hvq, -⟩ := hfam.shape
      rw [hvq] at h0
      simp only [List.length_nil] at h0
      clear h hno hfam hvq
      go_enter Try.func22, Try.ntmps22
      go_wp2_with fail
      (try simp only [Exit.inBlock, Exit.then])
      refine bodyPost_ret (results_none rfl _ _ _) rfl ?_
      exact ⟨rfl, hSH.out, BlM.refl _ _⟩
  · rw [show holdB S i = false from decide_eq_false hp] at a0
    clear h hno
    go_enter Try.func22, Try.ntmps22
    go_wp2_with fail
    (try simp only [Exit.inBlock, Exit.then])
    refine bodyPost_ret (results_none rfl _ _ _) rfl ?_
    exact ⟨rfl, hSH.out, BlM.refl _ _⟩

set_option maxHeartbeats 4000000 in
theorem give_own (w : World) (B n : Nat) (b : KB) (S : KS) (N : Nat) (cs : List Int) (h : RkS w B n b S N cs) (hO : OkK n S 900) (hN5 : N ≤ 5000) (i : Nat) (hi : i < n) (hn : n ≤ 6) (hp : S.ptr i = i) (hin : S.ins i = false) (y : Nat) (t : List Nat) (hr : S.row i = y :: t) (hyi : y = i) :
    Calls Try.prog 22 #[.int .i64 (i : Int), .pointer (some ⟨b.bh, 0, none⟩), .pointer (some ⟨b.bi, 0, none⟩), .pointer (some ⟨b.br, 0, none⟩), .pointer (some ⟨b.bp, 0, none⟩), .pointer (some ⟨b.bw, 0, none⟩)] w (GvK B n b (N + 2) cs w (S.serve i)) := by
  obtain ⟨vs, vl, L, vc, h, hRL0, hL⟩ := h
  obtain ⟨x0, x1, x2, x3, x4, x5⟩ := h.vars
  have hh0 := BRowG.at_ h.rA hi
  have hi0 := BRowG.at_ h.rI hi
  have hiI : (i : Int) < (n : Int) := by omega
  have hRL := Lib.hid hRL0
  rw [show holdB S i = true from decide_eq_true hp] at hh0
  rw [hin] at hi0
  have hR := Lib.hid h
  have hfam := h.fam i hi
  rw [show rwK S i = (y : Int) :: nlK t by unfold rwK; rw [hr]; rfl] at hfam
  obtain ⟨Aq, cap, hvq, hc1, hc2, hc3⟩ := hfam.shape
  obtain ⟨g, off, hAq, hy0⟩ := hc3 0 (by simp)
  subst hAq
  simp only [List.getElem_cons_zero, Nat.add_zero] at hy0
  rw [List.length_cons, nlK_len] at hvq hc1
  have h0 := h.hcell hi
  rw [hvq] at h0 hfam
  have htl := hfam.tail
  rw [nlK_len] at htl
  obtain ⟨At, ct, hAt, -, -, hNt⟩ := htl.nums
  rw [nlK_len] at hAt
  injection hAt with hAt1 hAt2 hAt3
  rw [← hAt1] at hNt
  obtain ⟨off1, hoff1⟩ : ∃ off1, Hid ((if cap = 1 then some (⟨g, off, none⟩ : Addr) else (some (⟨g, off, none⟩ : Addr)).map (·.add 1)) = some ⟨g, off1, none⟩) := by
    by_cases e : cap = 1
    · exact ⟨off, by unfold Hid; rw [if_pos e]⟩
    · exact ⟨off + 1, by unfold Hid; rw [if_neg e]; simp [Addr.add]⟩
  rw [hoff1.out] at hNt
  have htl9 : t.length ≤ 900 := by have := hO.row i; rw [hr] at this; simp at this; omega
  have hyn := hO.mem i y (by rw [hr]; simp)
  have hsz : B ≤ w.heap.size := h.sz
  have a2 : ∀ o, (w.alloc o).cell? ⟨b.br, 0, none⟩ = some (.slice (some ⟨b.H, 0, none⟩) n n) := fun o => ((h.alloc o).vars).2.2.1
  have a0 : ∀ o, (w.alloc o).cell? ⟨b.H, i, none⟩ = some (.slice (some ⟨g, off, none⟩) (t.length + 1) cap) := fun o => by rw [(h.alloc o).hcell hi, hvq]
  have hE : Hid (∀ w' : World, w'.heap = (w.alloc (.cells #[] 3)).heap → OwnInts w' B (.slice (some ⟨w.heap.size, 0, none⟩) 0 0) []) := fun w' e => ownsG_blk (ownsG_low (World.ownsRow_lit w #[] 0 (Nat.le_refl _) (by unfold maxLen; omega) (by simp)) hsz) (fun q _ => by rw [e])
  have hN : Hid (∀ w' : World, w'.heap = (w.alloc (.cells #[] 3)).heap → Nums w' w.heap.size (some ⟨g, off1, none⟩) (nlK t)) := fun w' e => hNt.keep fun p hp => by
    have h1 : w'.cell? p = (w.alloc (.cells #[] 3)).cell? p := by simp only [World.cell?, e]
    rw [h1]
    exact ((Below.refl w.heap.size w).alloc (Nat.le_refl _) _).cell hp
  have hlt : ([] : List Int).length + (nlK t).length ≤ 1000 := by rw [nlK_len]; simp; omega
  have hgrown : Hid (∀ wa : World, (w.alloc (.cells #[] 3)).grownBy wa (some w.heap.size) → w.grownBy wa none) := fun wa hg => ⟨hg.os, hg.tape, hg.output, by have := hg.size; simp at this; omega, fun q hq _ => (hg.block q (by simp; omega) (fun e => by injection e with e; omega)).trans (Below.heap_alloc w _ q hq)⟩
  have hgrow2 : Hid (∀ wa : World, w.grownBy wa none → w.grownBy wa (vs i).ownBlock) := fun wa hg => ⟨hg.os, hg.tape, hg.output, hg.size, fun q hq _ => hg.block q hq (by simp)⟩
  have hm1 : Hid ((⟨b.H, i, none⟩ : Addr) ≠ ⟨b.br, 0, none⟩) := fun e => rowG_ne h.rH h.rb (by decide) (by injection e)
  have hlowH : Hid (B ≤ b.H) := h.lo.2.2.2.2.2.1
  have hcut : Hid (∀ j, j < n → up1 (rwK S) i (nlK t) j = rwK (S.cut i) j) := fun j _ => by
    show _ = nlK (up1 S.row i (S.row i).tail j)
    by_cases e : j = i
    · rw [e, up1_same, up1_same, hr]; rfl
    · rw [up1_other _ _ e, up1_other _ _ e]; rfl
  have hzb : (((t.length + 1 : Nat) : Int) == 0) = false := by rw [beq_eq_false_iff_ne]; omega
  have hm1b : (1 : Int) ≤ ((t.length + 1 : Nat) : Int) := by omega
  have hm1c : (1 : Int) ≤ (t.length : Int) + 1 := by omega
  have hoff2 : (if cap = 1 then some (⟨g, off, none⟩ : Addr) else some (⟨g, off + 1, none⟩ : Addr)) = some ⟨g, off1, none⟩ := by
    rw [← hoff1.out]
    simp [Addr.add]
  have hc1I : ((t.length + 1 : Nat) : Int) ≤ (cap : Int) := by omega
  clear htl hfam hNt hc3 hvq hAt1 hAt2 hAt3
  have hS := Lib.hid (serve_own hp hin (by rw [hr, hyi]))
  have hyb : ((y : Int) == (i : Int)) = true := by rw [beq_iff_eq]; omega
  clear hO hr hp hin hRL0 h
  go_enter Try.func22, Try.ntmps22
  go_wp2_with fail
  refine wp_region_held_drew (S := fun w' => w'.cell? ⟨b.br, 0, none⟩ = some (.slice (some ⟨b.H, 0, none⟩) n n)) (by kernel_rfl) ?_ (fun hHeld => ?_)
  · exact x2
  refine wpAnyH_take (i := 0) (v := ?_) rfl (by kernel_rfl) (by kernel_rfl) (by kernel_rfl) (fun _ _ _ h => h) (Or.inl ⟨by rfl, ?_⟩) (by assumption) ?_
  rotate_left
  · (intro w hSw; (try dsimp only at hSw); first | (go_simp; done) | (go_simp; with_reducible rfl))
  try simp only [Act.put, List.setIfInBounds_toArray, List.set_cons_zero, List.set_cons_succ]
  refine wpAnyH_take (i := 1) (v := ?_) rfl (by kernel_rfl) (by kernel_rfl) (by kernel_rfl) (fun _ _ _ h => h) (Or.inl ⟨by rfl, ?_⟩) (by assumption) ?_
  rotate_left
  · (intro w hSw; (try dsimp only at hSw); first | (go_simp; done) | (go_simp; with_reducible rfl))
  try simp only [Act.put, List.setIfInBounds_toArray, List.set_cons_zero, List.set_cons_succ]
  refine wpAnyH_take (i := 3) (v := ?_) rfl (by kernel_rfl) (by kernel_rfl) (by kernel_rfl) (fun _ _ _ h => h) (Or.inl ⟨by rfl, ?_⟩) (by assumption) ?_
  rotate_left
  · (intro w hSw; (try dsimp only at hSw); first | (go_simp; done) | (go_simp; with_reducible rfl))
  try simp only [Act.put, List.setIfInBounds_toArray, List.set_cons_zero, List.set_cons_succ]
  refine wpAnyH_take (i := 4) (v := ?_) rfl (by kernel_rfl) (by kernel_rfl) (by kernel_rfl) (fun _ _ _ h => h) (Or.inl ⟨by rfl, ?_⟩) (by assumption) ?_
  rotate_left
  · (intro w hSw; (try dsimp only at hSw); first | (go_simp; done) | (go_simp; with_reducible rfl))
  try simp only [Act.put, List.setIfInBounds_toArray, List.set_cons_zero, List.set_cons_succ]
  refine wpAnyH_take (i := 5) (v := ?_) rfl (by kernel_rfl) (by kernel_rfl) (by kernel_rfl) (fun _ _ _ h => h) (Or.inl ⟨by rfl, ?_⟩) (by assumption) ?_
  rotate_left
  · (intro w hSw; (try dsimp only at hSw); first | (go_simp; done) | (go_simp; with_reducible rfl))
  try simp only [Act.put, List.setIfInBounds_toArray, List.set_cons_zero, List.set_cons_succ]
  refine wpAnyH_ready (rs := [2, 6]) (by kernel_rfl) (by simp) ?_
  refine AllReadyH.cons rfl (fun K hK => ?_) (AllReadyH.cons rfl (fun K hK => ?_) AllReadyH.nil)
  · go_simp
    refine hK.out _ _ ?_ (fun hHeld => ?_)
    · exact a2 _
    clear hK K
    try simp only [Act.put, List.setIfInBounds_toArray, List.set_cons_zero, List.set_cons_succ]
    refine wpAnyH_ready (rs := [6]) (by kernel_rfl) (by simp) ?_
    refine AllReadyH.cons rfl (fun K hK => ?_) AllReadyH.nil
    go_simp
    refine hK.out _ _ ?_ (fun hHeld => ?_)
    · exact a2 _
    clear hK K
    try simp only [Act.put, List.setIfInBounds_toArray, List.set_cons_zero, List.set_cons_succ]
    refine wpAnyH_take (i := 7) (v := ?_) rfl (by kernel_rfl) (by kernel_rfl) (by kernel_rfl) (fun _ _ _ h => h) (Or.inl ⟨by rfl, ?_⟩) (by assumption) ?_
    rotate_left
    · (intro w hSw; (try dsimp only at hSw); first | (go_simp; done) | (go_simp; with_reducible rfl))
    try simp only [Act.put, List.setIfInBounds_toArray, List.set_cons_zero, List.set_cons_succ]
    refine wpAnyH_ready (rs := [8]) (by kernel_rfl) (by simp) ?_
    refine AllReadyH.cons rfl (fun K hK => ?_) AllReadyH.nil
    refine step_append_ints rfl (.tmp 35) (.tmp 40) rfl B (.slice (some ⟨w.heap.size, 0, none⟩) 0 0) [] rfl (hE.out _ rfl) g off1 (cap - 1) t.length (nlK t) (nlK_len t) rfl w.heap.size (hN.out _ rfl) hlt (by simp; omega) ?_
    intro va wa hQ2 hg2 hat2
    rw [List.nil_append] at hQ2
    have hgr : w.grownBy wa none := hgrown.out wa ⟨hg2.os, hg2.tape, hg2.output, hg2.size, hg2.block⟩
    have hQ3 := hQ2.que
    obtain ⟨Av, cv, hva, -, -, -⟩ := hQ3.shape
    rw [nlK_len] at hva
    subst hva
    have e0 : wa.cell? ⟨b.H, i, none⟩ = some (.slice (some ⟨g, off, none⟩) (t.length + 1) cap) := hgr.cell h0 (by simp)
    have ef : wa.frozen? ⟨b.H, i, none⟩ = false := (hR.out.rH.grown hgr (by simp)).frozen i
    have e1 : wa.cell? ⟨b.br, 0, none⟩ = some (.slice (some ⟨b.H, 0, none⟩) n n) := hgr.cell x2 (by simp)
    have hk2 : ∀ v, (wa.setCell ⟨b.H, i, none⟩ v).cell? ⟨b.br, 0, none⟩ = some (.slice (some ⟨b.H, 0, none⟩) n n) := fun v => (World.cell?_setCell_other _ _ _ _ hm1.out).trans e1
    refine hK.out _ _ ?_ (fun hHeld => ?_)
    · exact e1
    clear hK K
    try simp only [Act.put, List.setIfInBounds_toArray, List.set_cons_zero, List.set_cons_succ]
    refine wpAnyH_take (i := 9) (v := ?_) rfl (by kernel_rfl) (by kernel_rfl) (by kernel_rfl) (fun _ _ _ h => h) (Or.inl ⟨by rfl, ?_⟩) (by assumption) ?_
    rotate_left
    · (intro w hSw; (try dsimp only at hSw); first | (go_simp; done) | (go_simp; with_reducible rfl))
    try simp only [Act.put, List.setIfInBounds_toArray, List.set_cons_zero, List.set_cons_succ]
    refine wpAnyH_ready (rs := [10]) (by kernel_rfl) (by simp) ?_
    refine AllReadyH.cons rfl (fun K hK => ?_) AllReadyH.nil
    go_simp
    refine hK.out _ _ ?_ (fun hHeld => ?_)
    · exact hk2 _
    clear hK K
    try simp only [Act.put, List.setIfInBounds_toArray, List.set_cons_zero, List.set_cons_succ]
    refine wpAnyH_done (by kernel_rfl) ?_ _
    have hat3 : (Value.slice Av t.length cv).ownBlock = none ∨ (Value.slice Av t.length cv).ownBlock = (vs i).ownBlock ∨ ∃ q, (Value.slice Av t.length cv).ownBlock = some q ∧ w.heap.size ≤ q := by
      rcases hat2 with h | h
      · exact .inr (.inr ⟨_, h, Nat.le_refl _⟩)
      · exact .inr (.inr ⟨_, h, by simp⟩)
    have hR5 := Lib.hid (hR.out.putQ (j := i) hi hQ3 (hgrow2.out wa hgr) hat3)
    have hB5 := Lib.hid ((BlM.refl B w).grown hgr hsz (by simp) (by simp) |>.setRow (p := ⟨b.H, i, none⟩) (hR.out.rH.grown hgr (by simp)) (by decide) hlowH.out (.slice Av t.length cv))
    clear hk2 e0 ef e1 hQ2 hg2 hat2 hgr hQ3 hat3
    have hR6 := Lib.hid (hR5.out.congr (fun _ _ => rfl) (fun _ _ => rfl) (fun _ _ => rfl) hcut.out)
    obtain ⟨y0, y1, y2, y3, y4, y5⟩ := hR6.out.vars
    have i0 := BRowG.at_ hR6.out.rI hi
    have if0 := Row.frozen hR6.out.rI i
    have hR7 := Lib.hid (hR6.out.setI_ i true)
    have hB7 := Lib.hid (hB5.out.setRow (p := ⟨b.I, i, none⟩) hR6.out.rI (by decide) hR6.out.lo.2.2.2.2.2.2.2.2.2.1 (.bool true))
    clear hR5 hB5 hR6 hR hE hN hgrown hgrow2 x0 x1 x2 x3 x4 x5 h0 hy0 a0 a2 y0 y2 y3 y4 y5
    go_wp2_with fail
    (try simp only [Exit.inBlock, Exit.then])
    refine bodyPost_ret (results_none rfl _ _ _) rfl ?_
    exact ⟨rfl, ⟨_, _, _, _, by rw [hS.out]; exact hR7.out, by rw [hS.out]; exact hRL.out, by omega⟩, hB7.out⟩
  · go_simp
    refine hK.out _ _ ?_ (fun hHeld => ?_)
    · exact hHeld
    clear hK K
    try simp only [Act.put, List.setIfInBounds_toArray, List.set_cons_zero, List.set_cons_succ]
    refine wpAnyH_take (i := 7) (v := ?_) rfl (by kernel_rfl) (by kernel_rfl) (by kernel_rfl) (fun _ _ _ h => h) (Or.inl ⟨by rfl, ?_⟩) (by assumption) ?_
    rotate_left
    · (intro w hSw; (try dsimp only at hSw); first | (go_simp; done) | (go_simp; with_reducible rfl))
    try simp only [Act.put, List.setIfInBounds_toArray, List.set_cons_zero, List.set_cons_succ]
    refine wpAnyH_ready (rs := [2]) (by kernel_rfl) (by simp) ?_
    refine AllReadyH.cons rfl (fun K hK => ?_) AllReadyH.nil
    go_simp
    refine hK.out _ _ ?_ (fun hHeld => ?_)
    · exact a2 _
    clear hK K
    try simp only [Act.put, List.setIfInBounds_toArray, List.set_cons_zero, List.set_cons_succ]
    refine wpAnyH_ready (rs := [8]) (by kernel_rfl) (by simp) ?_
    refine AllReadyH.cons rfl (fun K hK => ?_) AllReadyH.nil
    refine step_append_ints rfl (.tmp 35) (.tmp 40) rfl B (.slice (some ⟨w.heap.size, 0, none⟩) 0 0) [] rfl (hE.out _ rfl) g off1 (cap - 1) t.length (nlK t) (nlK_len t) rfl w.heap.size (hN.out _ rfl) hlt (by simp; omega) ?_
    intro va wa hQ2 hg2 hat2
    rw [List.nil_append] at hQ2
    have hgr : w.grownBy wa none := hgrown.out wa ⟨hg2.os, hg2.tape, hg2.output, hg2.size, hg2.block⟩
    have hQ3 := hQ2.que
    obtain ⟨Av, cv, hva, -, -, -⟩ := hQ3.shape
    rw [nlK_len] at hva
    subst hva
    have e0 : wa.cell? ⟨b.H, i, none⟩ = some (.slice (some ⟨g, off, none⟩) (t.length + 1) cap) := hgr.cell h0 (by simp)
    have ef : wa.frozen? ⟨b.H, i, none⟩ = false := (hR.out.rH.grown hgr (by simp)).frozen i
    have e1 : wa.cell? ⟨b.br, 0, none⟩ = some (.slice (some ⟨b.H, 0, none⟩) n n) := hgr.cell x2 (by simp)
    have hk2 : ∀ v, (wa.setCell ⟨b.H, i, none⟩ v).cell? ⟨b.br, 0, none⟩ = some (.slice (some ⟨b.H, 0, none⟩) n n) := fun v => (World.cell?_setCell_other _ _ _ _ hm1.out).trans e1
    refine hK.out _ _ ?_ (fun hHeld => ?_)
    · exact e1
    clear hK K
    try simp only [Act.put, List.setIfInBounds_toArray, List.set_cons_zero, List.set_cons_succ]
    refine wpAnyH_take (i := 9) (v := ?_) rfl (by kernel_rfl) (by kernel_rfl) (by kernel_rfl) (fun _ _ _ h => h) (Or.inl ⟨by rfl, ?_⟩) (by assumption) ?_
    rotate_left
    · (intro w hSw; (try dsimp only at hSw); first | (go_simp; done) | (go_simp; with_reducible rfl))
    try simp only [Act.put, List.setIfInBounds_toArray, List.set_cons_zero, List.set_cons_succ]
    refine wpAnyH_ready (rs := [10]) (by kernel_rfl) (by simp) ?_
    refine AllReadyH.cons rfl (fun K hK => ?_) AllReadyH.nil
    go_simp
    refine hK.out _ _ ?_ (fun hHeld => ?_)
    · exact hk2 _
    clear hK K
    try simp only [Act.put, List.setIfInBounds_toArray, List.set_cons_zero, List.set_cons_succ]
    refine wpAnyH_done (by kernel_rfl) ?_ _
    have hat3 : (Value.slice Av t.length cv).ownBlock = none ∨ (Value.slice Av t.length cv).ownBlock = (vs i).ownBlock ∨ ∃ q, (Value.slice Av t.length cv).ownBlock = some q ∧ w.heap.size ≤ q := by
      rcases hat2 with h | h
      · exact .inr (.inr ⟨_, h, Nat.le_refl _⟩)
      · exact .inr (.inr ⟨_, h, by simp⟩)
    have hR5 := Lib.hid (hR.out.putQ (j := i) hi hQ3 (hgrow2.out wa hgr) hat3)
    have hB5 := Lib.hid ((BlM.refl B w).grown hgr hsz (by simp) (by simp) |>.setRow (p := ⟨b.H, i, none⟩) (hR.out.rH.grown hgr (by simp)) (by decide) hlowH.out (.slice Av t.length cv))
    clear hk2 e0 ef e1 hQ2 hg2 hat2 hgr hQ3 hat3
    have hR6 := Lib.hid (hR5.out.congr (fun _ _ => rfl) (fun _ _ => rfl) (fun _ _ => rfl) hcut.out)
    obtain ⟨y0, y1, y2, y3, y4, y5⟩ := hR6.out.vars
    have i0 := BRowG.at_ hR6.out.rI hi
    have if0 := Row.frozen hR6.out.rI i
    have hR7 := Lib.hid (hR6.out.setI_ i true)
    have hB7 := Lib.hid (hB5.out.setRow (p := ⟨b.I, i, none⟩) hR6.out.rI (by decide) hR6.out.lo.2.2.2.2.2.2.2.2.2.1 (.bool true))
    clear hR5 hB5 hR6 hR hE hN hgrown hgrow2 x0 x1 x2 x3 x4 x5 h0 hy0 a0 a2 y0 y2 y3 y4 y5
    go_wp2_with fail
    (try simp only [Exit.inBlock, Exit.then])
    refine bodyPost_ret (results_none rfl _ _ _) rfl ?_
    exact ⟨rfl, ⟨_, _, _, _, by rw [hS.out]; exact hR7.out, by rw [hS.out]; exact hRL.out, by omega⟩, hB7.out⟩
set_option maxHeartbeats 4000000 in
theorem give_last (w : World) (B n : Nat) (b : KB) (S : KS) (N : Nat) (cs : List Int) (h : RkS w B n b S N cs) (hO : OkK n S 900) (hN5 : N ≤ 5000) (i : Nat) (hi : i < n) (hn : n ≤ 6) (hp : S.ptr i = i) (hin : S.ins i = false) (y : Nat) (t : List Nat) (hr : S.row i = y :: t) (hyi : y ≠ i) (ht : t = []) :
    Calls Try.prog 22 #[.int .i64 (i : Int), .pointer (some ⟨b.bh, 0, none⟩), .pointer (some ⟨b.bi, 0, none⟩), .pointer (some ⟨b.br, 0, none⟩), .pointer (some ⟨b.bp, 0, none⟩), .pointer (some ⟨b.bw, 0, none⟩)] w (GvK B n b (N + 2) cs w (S.serve i)) := by
  obtain ⟨vs, vl, L, vc, h, hRL0, hL⟩ := h
  obtain ⟨x0, x1, x2, x3, x4, x5⟩ := h.vars
  have hh0 := BRowG.at_ h.rA hi
  have hi0 := BRowG.at_ h.rI hi
  have hiI : (i : Int) < (n : Int) := by omega
  have hRL := Lib.hid hRL0
  rw [show holdB S i = true from decide_eq_true hp] at hh0
  rw [hin] at hi0
  have hR := Lib.hid h
  have hfam := h.fam i hi
  rw [show rwK S i = (y : Int) :: nlK t by unfold rwK; rw [hr]; rfl] at hfam
  obtain ⟨Aq, cap, hvq, hc1, hc2, hc3⟩ := hfam.shape
  obtain ⟨g, off, hAq, hy0⟩ := hc3 0 (by simp)
  subst hAq
  simp only [List.getElem_cons_zero, Nat.add_zero] at hy0
  rw [List.length_cons, nlK_len] at hvq hc1
  have h0 := h.hcell hi
  rw [hvq] at h0 hfam
  have htl := hfam.tail
  rw [nlK_len] at htl
  obtain ⟨At, ct, hAt, -, -, hNt⟩ := htl.nums
  rw [nlK_len] at hAt
  injection hAt with hAt1 hAt2 hAt3
  rw [← hAt1] at hNt
  obtain ⟨off1, hoff1⟩ : ∃ off1, Hid ((if cap = 1 then some (⟨g, off, none⟩ : Addr) else (some (⟨g, off, none⟩ : Addr)).map (·.add 1)) = some ⟨g, off1, none⟩) := by
    by_cases e : cap = 1
    · exact ⟨off, by unfold Hid; rw [if_pos e]⟩
    · exact ⟨off + 1, by unfold Hid; rw [if_neg e]; simp [Addr.add]⟩
  rw [hoff1.out] at hNt
  have htl9 : t.length ≤ 900 := by have := hO.row i; rw [hr] at this; simp at this; omega
  have hyn := hO.mem i y (by rw [hr]; simp)
  have hsz : B ≤ w.heap.size := h.sz
  have a2 : ∀ o, (w.alloc o).cell? ⟨b.br, 0, none⟩ = some (.slice (some ⟨b.H, 0, none⟩) n n) := fun o => ((h.alloc o).vars).2.2.1
  have a0 : ∀ o, (w.alloc o).cell? ⟨b.H, i, none⟩ = some (.slice (some ⟨g, off, none⟩) (t.length + 1) cap) := fun o => by rw [(h.alloc o).hcell hi, hvq]
  have hE : Hid (∀ w' : World, w'.heap = (w.alloc (.cells #[] 3)).heap → OwnInts w' B (.slice (some ⟨w.heap.size, 0, none⟩) 0 0) []) := fun w' e => ownsG_blk (ownsG_low (World.ownsRow_lit w #[] 0 (Nat.le_refl _) (by unfold maxLen; omega) (by simp)) hsz) (fun q _ => by rw [e])
  have hN : Hid (∀ w' : World, w'.heap = (w.alloc (.cells #[] 3)).heap → Nums w' w.heap.size (some ⟨g, off1, none⟩) (nlK t)) := fun w' e => hNt.keep fun p hp => by
    have h1 : w'.cell? p = (w.alloc (.cells #[] 3)).cell? p := by simp only [World.cell?, e]
    rw [h1]
    exact ((Below.refl w.heap.size w).alloc (Nat.le_refl _) _).cell hp
  have hlt : ([] : List Int).length + (nlK t).length ≤ 1000 := by rw [nlK_len]; simp; omega
  have hgrown : Hid (∀ wa : World, (w.alloc (.cells #[] 3)).grownBy wa (some w.heap.size) → w.grownBy wa none) := fun wa hg => ⟨hg.os, hg.tape, hg.output, by have := hg.size; simp at this; omega, fun q hq _ => (hg.block q (by simp; omega) (fun e => by injection e with e; omega)).trans (Below.heap_alloc w _ q hq)⟩
  have hgrow2 : Hid (∀ wa : World, w.grownBy wa none → w.grownBy wa (vs i).ownBlock) := fun wa hg => ⟨hg.os, hg.tape, hg.output, hg.size, fun q hq _ => hg.block q hq (by simp)⟩
  have hm1 : Hid ((⟨b.H, i, none⟩ : Addr) ≠ ⟨b.br, 0, none⟩) := fun e => rowG_ne h.rH h.rb (by decide) (by injection e)
  have hlowH : Hid (B ≤ b.H) := h.lo.2.2.2.2.2.1
  have hcut : Hid (∀ j, j < n → up1 (rwK S) i (nlK t) j = rwK (S.cut i) j) := fun j _ => by
    show _ = nlK (up1 S.row i (S.row i).tail j)
    by_cases e : j = i
    · rw [e, up1_same, up1_same, hr]; rfl
    · rw [up1_other _ _ e, up1_other _ _ e]; rfl
  have hzb : (((t.length + 1 : Nat) : Int) == 0) = false := by rw [beq_eq_false_iff_ne]; omega
  have hm1b : (1 : Int) ≤ ((t.length + 1 : Nat) : Int) := by omega
  have hm1c : (1 : Int) ≤ (t.length : Int) + 1 := by omega
  have hoff2 : (if cap = 1 then some (⟨g, off, none⟩ : Addr) else some (⟨g, off + 1, none⟩ : Addr)) = some ⟨g, off1, none⟩ := by
    rw [← hoff1.out]
    simp [Addr.add]
  have hc1I : ((t.length + 1 : Nat) : Int) ≤ (cap : Int) := by omega
  clear htl hfam hNt hc3 hvq hAt1 hAt2 hAt3
  obtain ⟨jl, hi1, hz1, hz2, hz3⟩ := info_parts infoLt
  have hLi := Lib.hid hi1; have hLz := Lib.hid hz1; have hLs := Lib.hid hz2; have hLb := Lib.hid hz3
  clear hi1 hz1 hz2 hz3
  have hyb : ((y : Int) == (i : Int)) = false := by rw [beq_eq_false_iff_ne]; omega
  have hpass : Hid (∀ j, j < n → ptK ((S.cut i).aim i y) j = up1 (ptK S) i (y : Int) j) := fun j _ => by
    show ((up1 S.ptr i y j : Nat) : Int) = _
    by_cases e : j = i
    · rw [e, up1_same, up1_same]
    · rw [up1_other _ _ e, up1_other _ _ e]; rfl
  have hpas2 : Hid (∀ j, j < n → up1 (holdB S) i false j = holdB ((S.cut i).aim i y) j) := fun j _ => by
    show _ = decide (up1 S.ptr i y j = j)
    by_cases e : j = i
    · rw [e, up1_same, up1_same]; exact (decide_eq_false hyi).symm
    · rw [up1_other _ _ e, up1_other _ _ e]; rfl
  have hRL1 := Lib.hid (hRL0.put hi hyn (fun e => hyi e.symm) 1)
  have hS := Lib.hid (serve_last hp hin (by rw [hr, ht]) hyi)
  have htp : ¬ (0 : Int) < (t.length : Int) := by rw [ht]; simp
  clear hO hr hp hin hRL0 h ht
  go_enter Try.func22, Try.ntmps22
  go_wp2_with fail
  refine wp_region_held_drew (S := fun w' => w'.cell? ⟨b.br, 0, none⟩ = some (.slice (some ⟨b.H, 0, none⟩) n n)) (by kernel_rfl) ?_ (fun hHeld => ?_)
  · exact x2
  refine wpAnyH_take (i := 0) (v := ?_) rfl (by kernel_rfl) (by kernel_rfl) (by kernel_rfl) (fun _ _ _ h => h) (Or.inl ⟨by rfl, ?_⟩) (by assumption) ?_
  rotate_left
  · (intro w hSw; (try dsimp only at hSw); first | (go_simp; done) | (go_simp; with_reducible rfl))
  try simp only [Act.put, List.setIfInBounds_toArray, List.set_cons_zero, List.set_cons_succ]
  refine wpAnyH_take (i := 1) (v := ?_) rfl (by kernel_rfl) (by kernel_rfl) (by kernel_rfl) (fun _ _ _ h => h) (Or.inl ⟨by rfl, ?_⟩) (by assumption) ?_
  rotate_left
  · (intro w hSw; (try dsimp only at hSw); first | (go_simp; done) | (go_simp; with_reducible rfl))
  try simp only [Act.put, List.setIfInBounds_toArray, List.set_cons_zero, List.set_cons_succ]
  refine wpAnyH_take (i := 3) (v := ?_) rfl (by kernel_rfl) (by kernel_rfl) (by kernel_rfl) (fun _ _ _ h => h) (Or.inl ⟨by rfl, ?_⟩) (by assumption) ?_
  rotate_left
  · (intro w hSw; (try dsimp only at hSw); first | (go_simp; done) | (go_simp; with_reducible rfl))
  try simp only [Act.put, List.setIfInBounds_toArray, List.set_cons_zero, List.set_cons_succ]
  refine wpAnyH_take (i := 4) (v := ?_) rfl (by kernel_rfl) (by kernel_rfl) (by kernel_rfl) (fun _ _ _ h => h) (Or.inl ⟨by rfl, ?_⟩) (by assumption) ?_
  rotate_left
  · (intro w hSw; (try dsimp only at hSw); first | (go_simp; done) | (go_simp; with_reducible rfl))
  try simp only [Act.put, List.setIfInBounds_toArray, List.set_cons_zero, List.set_cons_succ]
  refine wpAnyH_take (i := 5) (v := ?_) rfl (by kernel_rfl) (by kernel_rfl) (by kernel_rfl) (fun _ _ _ h => h) (Or.inl ⟨by rfl, ?_⟩) (by assumption) ?_
  rotate_left
  · (intro w hSw; (try dsimp only at hSw); first | (go_simp; done) | (go_simp; with_reducible rfl))
  try simp only [Act.put, List.setIfInBounds_toArray, List.set_cons_zero, List.set_cons_succ]
  refine wpAnyH_ready (rs := [2, 6]) (by kernel_rfl) (by simp) ?_
  refine AllReadyH.cons rfl (fun K hK => ?_) (AllReadyH.cons rfl (fun K hK => ?_) AllReadyH.nil)
  · go_simp
    refine hK.out _ _ ?_ (fun hHeld => ?_)
    · exact a2 _
    clear hK K
    try simp only [Act.put, List.setIfInBounds_toArray, List.set_cons_zero, List.set_cons_succ]
    refine wpAnyH_ready (rs := [6]) (by kernel_rfl) (by simp) ?_
    refine AllReadyH.cons rfl (fun K hK => ?_) AllReadyH.nil
    go_simp
    refine hK.out _ _ ?_ (fun hHeld => ?_)
    · exact a2 _
    clear hK K
    try simp only [Act.put, List.setIfInBounds_toArray, List.set_cons_zero, List.set_cons_succ]
    refine wpAnyH_take (i := 7) (v := ?_) rfl (by kernel_rfl) (by kernel_rfl) (by kernel_rfl) (fun _ _ _ h => h) (Or.inl ⟨by rfl, ?_⟩) (by assumption) ?_
    rotate_left
    · (intro w hSw; (try dsimp only at hSw); first | (go_simp; done) | (go_simp; with_reducible rfl))
    try simp only [Act.put, List.setIfInBounds_toArray, List.set_cons_zero, List.set_cons_succ]
    refine wpAnyH_ready (rs := [8]) (by kernel_rfl) (by simp) ?_
    refine AllReadyH.cons rfl (fun K hK => ?_) AllReadyH.nil
    refine step_append_ints rfl (.tmp 35) (.tmp 40) rfl B (.slice (some ⟨w.heap.size, 0, none⟩) 0 0) [] rfl (hE.out _ rfl) g off1 (cap - 1) t.length (nlK t) (nlK_len t) rfl w.heap.size (hN.out _ rfl) hlt (by simp; omega) ?_
    intro va wa hQ2 hg2 hat2
    rw [List.nil_append] at hQ2
    have hgr : w.grownBy wa none := hgrown.out wa ⟨hg2.os, hg2.tape, hg2.output, hg2.size, hg2.block⟩
    have hQ3 := hQ2.que
    obtain ⟨Av, cv, hva, -, -, -⟩ := hQ3.shape
    rw [nlK_len] at hva
    subst hva
    have e0 : wa.cell? ⟨b.H, i, none⟩ = some (.slice (some ⟨g, off, none⟩) (t.length + 1) cap) := hgr.cell h0 (by simp)
    have ef : wa.frozen? ⟨b.H, i, none⟩ = false := (hR.out.rH.grown hgr (by simp)).frozen i
    have e1 : wa.cell? ⟨b.br, 0, none⟩ = some (.slice (some ⟨b.H, 0, none⟩) n n) := hgr.cell x2 (by simp)
    have hk2 : ∀ v, (wa.setCell ⟨b.H, i, none⟩ v).cell? ⟨b.br, 0, none⟩ = some (.slice (some ⟨b.H, 0, none⟩) n n) := fun v => (World.cell?_setCell_other _ _ _ _ hm1.out).trans e1
    refine hK.out _ _ ?_ (fun hHeld => ?_)
    · exact e1
    clear hK K
    try simp only [Act.put, List.setIfInBounds_toArray, List.set_cons_zero, List.set_cons_succ]
    refine wpAnyH_take (i := 9) (v := ?_) rfl (by kernel_rfl) (by kernel_rfl) (by kernel_rfl) (fun _ _ _ h => h) (Or.inl ⟨by rfl, ?_⟩) (by assumption) ?_
    rotate_left
    · (intro w hSw; (try dsimp only at hSw); first | (go_simp; done) | (go_simp; with_reducible rfl))
    try simp only [Act.put, List.setIfInBounds_toArray, List.set_cons_zero, List.set_cons_succ]
    refine wpAnyH_ready (rs := [10]) (by kernel_rfl) (by simp) ?_
    refine AllReadyH.cons rfl (fun K hK => ?_) AllReadyH.nil
    go_simp
    refine hK.out _ _ ?_ (fun hHeld => ?_)
    · exact hk2 _
    clear hK K
    try simp only [Act.put, List.setIfInBounds_toArray, List.set_cons_zero, List.set_cons_succ]
    refine wpAnyH_done (by kernel_rfl) ?_ _
    have hat3 : (Value.slice Av t.length cv).ownBlock = none ∨ (Value.slice Av t.length cv).ownBlock = (vs i).ownBlock ∨ ∃ q, (Value.slice Av t.length cv).ownBlock = some q ∧ w.heap.size ≤ q := by
      rcases hat2 with h | h
      · exact .inr (.inr ⟨_, h, Nat.le_refl _⟩)
      · exact .inr (.inr ⟨_, h, by simp⟩)
    have hR5 := Lib.hid (hR.out.putQ (j := i) hi hQ3 (hgrow2.out wa hgr) hat3)
    have hB5 := Lib.hid ((BlM.refl B w).grown hgr hsz (by simp) (by simp) |>.setRow (p := ⟨b.H, i, none⟩) (hR.out.rH.grown hgr (by simp)) (by decide) hlowH.out (.slice Av t.length cv))
    clear hk2 e0 ef e1 hQ2 hg2 hat2 hgr hQ3 hat3
    have hR6 := Lib.hid (((hR5.out.setA_ i false).setP_ hi (y : Int)).congr hpass.out hpas2.out (fun _ _ => rfl) hcut.out)
    have hlo := hR5.out.lo
    have hB7 := Lib.hid ((hB5.out.setRow (p := ⟨b.A, i, none⟩) hR5.out.rA (by decide) hlo.2.2.2.2.2.2.2.1 (.bool false)).setRow (p := ⟨b.P, i, none⟩) (hR5.out.setA_ i false).rP.row.choose_spec (by decide) hlo.2.2.2.1 (.int .i64 (y : Int)))
    obtain ⟨y0, y1, y2, y3, y4, y5⟩ := hR5.out.vars
    have q0 := BRowG.at_ hR5.out.rA hi
    have qf0 := Row.frozen hR5.out.rA i
    have q1 := hR5.out.rP.at_ hi
    have qf1 := hR5.out.rP.frozen i
    have n1 : b.bp ≠ b.A := rowG_ne hR5.out.rp hR5.out.rA (by decide)
    have n2 : b.P ≠ b.A := rowG_ne hR5.out.rP.row.choose_spec hR5.out.rA (by decide)
    have n3 : b.bw ≠ b.A := rowG_ne hR5.out.rW hR5.out.rA (by decide)
    have n4 : b.bw ≠ b.P := rowG_ne hR5.out.rW hR5.out.rP.row.choose_spec (by decide)
    clear hlo
    generalize wa.setCell ⟨b.H, i, none⟩ (.slice Av t.length cv) = w5 at *
    have hRa2 := Lib.hid (hR6.out.alloc (.cells #[.int .i64 (i : Int), .int .i64 (y : Int), .int .i64 1] 52))
    have hBa2 := Lib.hid (hB7.out.alloc hR6.out.sz (.cells #[.int .i64 (i : Int), .int .i64 (y : Int), .int .i64 1] 52))
    have hol2 := Lib.hid hRa2.out.ol
    have hsa2 := Lib.hid hRa2.out.sz
    have hln2 : Hid (L.length ≤ 10000) := Nat.le_trans hL (by omega)
    have hnw2 := Lib.hid (newsL (g := w5.heap.size) (w := (w5.setCell ⟨b.A, i, none⟩ (.bool false)).setCell ⟨b.P, i, none⟩ (.int .i64 (y : Int))) ⟨(i : Int), (y : Int), 1⟩ (by simp))
    clear hR5 hB5 hR hE hN hgrown hgrow2 x0 x1 x2 x3 x4 x5 h0 hy0 a0 a2 y1 y2 y5 hpass hpas2 hcut
    generalize ptK S i = pz at *
    go_wp2_with (first
      | (at_builtin; refine wpList_append_let rfl (.tmp 56) (.tmp 60) rfl jl hLi.out hLz.out hLs.out hLb.out B vl L ⟨(i : Int), (y : Int), 1⟩ rfl hol2.out _ rfl hnw2.out hln2.out hsa2.out ?_; intro va2 wa2 hO2 hg2
         obtain ⟨A2, c2, hv2, hl21, hl22, -⟩ := hO2.shape
         obtain ⟨lv2, hlv2⟩ : ∃ lv, Hid ((L ++ [(⟨(i : Int), (y : Int), 1⟩ : Lt)]).length = lv) := ⟨_, rfl⟩
         rw [hlv2.out] at hv2 hl21
         subst hv2
         have hR8 := Lib.hid (hRa2.out.letters hO2 hg2)
         have hBl2 : Hid (BlM B w (wa2.setCell ⟨b.bw, 0, none⟩ (.slice A2 lv2 c2))) := (hBa2.out.grown hg2 hsa2.out (fun q hq => (World.ownsRow.lt hol2.out q hq).1) (fun g xs hr => owns_ne_row hol2.out hr (by decide))).setRow (p := ⟨b.bw, 0, none⟩) (hRa2.out.rW.grown hg2 (fun e => owns_ne_row hol2.out hRa2.out.rW (by decide) e.symm)) (by decide) hRa2.out.lo.2.2.2.2.2.2.2.2.2.2.1 _
         have z4 := (hRa2.out.rW.grown hg2 (fun e => owns_ne_row hol2.out hRa2.out.rW (by decide) e.symm)).cell (i := 0) (by simp)
         have zf := (hRa2.out.rW.grown hg2 (fun e => owns_ne_row hol2.out hRa2.out.rW (by decide) e.symm)).frozen 0
         simp only [List.getElem_cons_zero] at z4
         obtain ⟨u0, u1, u2, u3, u4, u5⟩ := hR8.out.vars
         have uh := hR8.out.hcell hi
         rw [up1_same] at uh
         clear hO2 hg2 hRa2 hBa2 hol2 hsa2 hnw2 u0 u1 u3 u5 y0 y3 y4 q0 qf0 q1 qf1))
    go_end0
    exact ⟨rfl, ⟨_, _, _, _, by rw [hS.out]; exact hR8.out, by rw [hS.out]; exact hRL1.out, by have := hlv2.out; simp at *; omega⟩, hBl2.out⟩
  · go_simp
    refine hK.out _ _ ?_ (fun hHeld => ?_)
    · exact hHeld
    clear hK K
    try simp only [Act.put, List.setIfInBounds_toArray, List.set_cons_zero, List.set_cons_succ]
    refine wpAnyH_take (i := 7) (v := ?_) rfl (by kernel_rfl) (by kernel_rfl) (by kernel_rfl) (fun _ _ _ h => h) (Or.inl ⟨by rfl, ?_⟩) (by assumption) ?_
    rotate_left
    · (intro w hSw; (try dsimp only at hSw); first | (go_simp; done) | (go_simp; with_reducible rfl))
    try simp only [Act.put, List.setIfInBounds_toArray, List.set_cons_zero, List.set_cons_succ]
    refine wpAnyH_ready (rs := [2]) (by kernel_rfl) (by simp) ?_
    refine AllReadyH.cons rfl (fun K hK => ?_) AllReadyH.nil
    go_simp
    refine hK.out _ _ ?_ (fun hHeld => ?_)
    · exact a2 _
    clear hK K
    try simp only [Act.put, List.setIfInBounds_toArray, List.set_cons_zero, List.set_cons_succ]
    refine wpAnyH_ready (rs := [8]) (by kernel_rfl) (by simp) ?_
    refine AllReadyH.cons rfl (fun K hK => ?_) AllReadyH.nil
    refine step_append_ints rfl (.tmp 35) (.tmp 40) rfl B (.slice (some ⟨w.heap.size, 0, none⟩) 0 0) [] rfl (hE.out _ rfl) g off1 (cap - 1) t.length (nlK t) (nlK_len t) rfl w.heap.size (hN.out _ rfl) hlt (by simp; omega) ?_
    intro va wa hQ2 hg2 hat2
    rw [List.nil_append] at hQ2
    have hgr : w.grownBy wa none := hgrown.out wa ⟨hg2.os, hg2.tape, hg2.output, hg2.size, hg2.block⟩
    have hQ3 := hQ2.que
    obtain ⟨Av, cv, hva, -, -, -⟩ := hQ3.shape
    rw [nlK_len] at hva
    subst hva
    have e0 : wa.cell? ⟨b.H, i, none⟩ = some (.slice (some ⟨g, off, none⟩) (t.length + 1) cap) := hgr.cell h0 (by simp)
    have ef : wa.frozen? ⟨b.H, i, none⟩ = false := (hR.out.rH.grown hgr (by simp)).frozen i
    have e1 : wa.cell? ⟨b.br, 0, none⟩ = some (.slice (some ⟨b.H, 0, none⟩) n n) := hgr.cell x2 (by simp)
    have hk2 : ∀ v, (wa.setCell ⟨b.H, i, none⟩ v).cell? ⟨b.br, 0, none⟩ = some (.slice (some ⟨b.H, 0, none⟩) n n) := fun v => (World.cell?_setCell_other _ _ _ _ hm1.out).trans e1
    refine hK.out _ _ ?_ (fun hHeld => ?_)
    · exact e1
    clear hK K
    try simp only [Act.put, List.setIfInBounds_toArray, List.set_cons_zero, List.set_cons_succ]
    refine wpAnyH_take (i := 9) (v := ?_) rfl (by kernel_rfl) (by kernel_rfl) (by kernel_rfl) (fun _ _ _ h => h) (Or.inl ⟨by rfl, ?_⟩) (by assumption) ?_
    rotate_left
    · (intro w hSw; (try dsimp only at hSw); first | (go_simp; done) | (go_simp; with_reducible rfl))
    try simp only [Act.put, List.setIfInBounds_toArray, List.set_cons_zero, List.set_cons_succ]
    refine wpAnyH_ready (rs := [10]) (by kernel_rfl) (by simp) ?_
    refine AllReadyH.cons rfl (fun K hK => ?_) AllReadyH.nil
    go_simp
    refine hK.out _ _ ?_ (fun hHeld => ?_)
    · exact hk2 _
    clear hK K
    try simp only [Act.put, List.setIfInBounds_toArray, List.set_cons_zero, List.set_cons_succ]
    refine wpAnyH_done (by kernel_rfl) ?_ _
    have hat3 : (Value.slice Av t.length cv).ownBlock = none ∨ (Value.slice Av t.length cv).ownBlock = (vs i).ownBlock ∨ ∃ q, (Value.slice Av t.length cv).ownBlock = some q ∧ w.heap.size ≤ q := by
      rcases hat2 with h | h
      · exact .inr (.inr ⟨_, h, Nat.le_refl _⟩)
      · exact .inr (.inr ⟨_, h, by simp⟩)
    have hR5 := Lib.hid (hR.out.putQ (j := i) hi hQ3 (hgrow2.out wa hgr) hat3)
    have hB5 := Lib.hid ((BlM.refl B w).grown hgr hsz (by simp) (by simp) |>.setRow (p := ⟨b.H, i, none⟩) (hR.out.rH.grown hgr (by simp)) (by decide) hlowH.out (.slice Av t.length cv))
    clear hk2 e0 ef e1 hQ2 hg2 hat2 hgr hQ3 hat3
    have hR6 := Lib.hid (((hR5.out.setA_ i false).setP_ hi (y : Int)).congr hpass.out hpas2.out (fun _ _ => rfl) hcut.out)
    have hlo := hR5.out.lo
    have hB7 := Lib.hid ((hB5.out.setRow (p := ⟨b.A, i, none⟩) hR5.out.rA (by decide) hlo.2.2.2.2.2.2.2.1 (.bool false)).setRow (p := ⟨b.P, i, none⟩) (hR5.out.setA_ i false).rP.row.choose_spec (by decide) hlo.2.2.2.1 (.int .i64 (y : Int)))
    obtain ⟨y0, y1, y2, y3, y4, y5⟩ := hR5.out.vars
    have q0 := BRowG.at_ hR5.out.rA hi
    have qf0 := Row.frozen hR5.out.rA i
    have q1 := hR5.out.rP.at_ hi
    have qf1 := hR5.out.rP.frozen i
    have n1 : b.bp ≠ b.A := rowG_ne hR5.out.rp hR5.out.rA (by decide)
    have n2 : b.P ≠ b.A := rowG_ne hR5.out.rP.row.choose_spec hR5.out.rA (by decide)
    have n3 : b.bw ≠ b.A := rowG_ne hR5.out.rW hR5.out.rA (by decide)
    have n4 : b.bw ≠ b.P := rowG_ne hR5.out.rW hR5.out.rP.row.choose_spec (by decide)
    clear hlo
    generalize wa.setCell ⟨b.H, i, none⟩ (.slice Av t.length cv) = w5 at *
    have hRa2 := Lib.hid (hR6.out.alloc (.cells #[.int .i64 (i : Int), .int .i64 (y : Int), .int .i64 1] 52))
    have hBa2 := Lib.hid (hB7.out.alloc hR6.out.sz (.cells #[.int .i64 (i : Int), .int .i64 (y : Int), .int .i64 1] 52))
    have hol2 := Lib.hid hRa2.out.ol
    have hsa2 := Lib.hid hRa2.out.sz
    have hln2 : Hid (L.length ≤ 10000) := Nat.le_trans hL (by omega)
    have hnw2 := Lib.hid (newsL (g := w5.heap.size) (w := (w5.setCell ⟨b.A, i, none⟩ (.bool false)).setCell ⟨b.P, i, none⟩ (.int .i64 (y : Int))) ⟨(i : Int), (y : Int), 1⟩ (by simp))
    clear hR5 hB5 hR hE hN hgrown hgrow2 x0 x1 x2 x3 x4 x5 h0 hy0 a0 a2 y1 y2 y5 hpass hpas2 hcut
    generalize ptK S i = pz at *
    go_wp2_with (first
      | (at_builtin; refine wpList_append_let rfl (.tmp 56) (.tmp 60) rfl jl hLi.out hLz.out hLs.out hLb.out B vl L ⟨(i : Int), (y : Int), 1⟩ rfl hol2.out _ rfl hnw2.out hln2.out hsa2.out ?_; intro va2 wa2 hO2 hg2
         obtain ⟨A2, c2, hv2, hl21, hl22, -⟩ := hO2.shape
         obtain ⟨lv2, hlv2⟩ : ∃ lv, Hid ((L ++ [(⟨(i : Int), (y : Int), 1⟩ : Lt)]).length = lv) := ⟨_, rfl⟩
         rw [hlv2.out] at hv2 hl21
         subst hv2
         have hR8 := Lib.hid (hRa2.out.letters hO2 hg2)
         have hBl2 : Hid (BlM B w (wa2.setCell ⟨b.bw, 0, none⟩ (.slice A2 lv2 c2))) := (hBa2.out.grown hg2 hsa2.out (fun q hq => (World.ownsRow.lt hol2.out q hq).1) (fun g xs hr => owns_ne_row hol2.out hr (by decide))).setRow (p := ⟨b.bw, 0, none⟩) (hRa2.out.rW.grown hg2 (fun e => owns_ne_row hol2.out hRa2.out.rW (by decide) e.symm)) (by decide) hRa2.out.lo.2.2.2.2.2.2.2.2.2.2.1 _
         have z4 := (hRa2.out.rW.grown hg2 (fun e => owns_ne_row hol2.out hRa2.out.rW (by decide) e.symm)).cell (i := 0) (by simp)
         have zf := (hRa2.out.rW.grown hg2 (fun e => owns_ne_row hol2.out hRa2.out.rW (by decide) e.symm)).frozen 0
         simp only [List.getElem_cons_zero] at z4
         obtain ⟨u0, u1, u2, u3, u4, u5⟩ := hR8.out.vars
         have uh := hR8.out.hcell hi
         rw [up1_same] at uh
         clear hO2 hg2 hRa2 hBa2 hol2 hsa2 hnw2 u0 u1 u3 u5 y0 y3 y4 q0 qf0 q1 qf1))
    go_end0
    exact ⟨rfl, ⟨_, _, _, _, by rw [hS.out]; exact hR8.out, by rw [hS.out]; exact hRL1.out, by have := hlv2.out; simp at *; omega⟩, hBl2.out⟩
set_option maxHeartbeats 4000000 in
theorem give_more (w : World) (B n : Nat) (b : KB) (S : KS) (N : Nat) (cs : List Int) (h : RkS w B n b S N cs) (hO : OkK n S 900) (hN5 : N ≤ 5000) (i : Nat) (hi : i < n) (hn : n ≤ 6) (hp : S.ptr i = i) (hin : S.ins i = false) (y : Nat) (t : List Nat) (hr : S.row i = y :: t) (hyi : y ≠ i) (ht : t ≠ []) :
    Calls Try.prog 22 #[.int .i64 (i : Int), .pointer (some ⟨b.bh, 0, none⟩), .pointer (some ⟨b.bi, 0, none⟩), .pointer (some ⟨b.br, 0, none⟩), .pointer (some ⟨b.bp, 0, none⟩), .pointer (some ⟨b.bw, 0, none⟩)] w (GvK B n b (N + 2) cs w (S.serve i)) := by
  obtain ⟨vs, vl, L, vc, h, hRL0, hL⟩ := h
  obtain ⟨x0, x1, x2, x3, x4, x5⟩ := h.vars
  have hh0 := BRowG.at_ h.rA hi
  have hi0 := BRowG.at_ h.rI hi
  have hiI : (i : Int) < (n : Int) := by omega
  have hRL := Lib.hid hRL0
  rw [show holdB S i = true from decide_eq_true hp] at hh0
  rw [hin] at hi0
  have hR := Lib.hid h
  have hfam := h.fam i hi
  rw [show rwK S i = (y : Int) :: nlK t by unfold rwK; rw [hr]; rfl] at hfam
  obtain ⟨Aq, cap, hvq, hc1, hc2, hc3⟩ := hfam.shape
  obtain ⟨g, off, hAq, hy0⟩ := hc3 0 (by simp)
  subst hAq
  simp only [List.getElem_cons_zero, Nat.add_zero] at hy0
  rw [List.length_cons, nlK_len] at hvq hc1
  have h0 := h.hcell hi
  rw [hvq] at h0 hfam
  have htl := hfam.tail
  rw [nlK_len] at htl
  obtain ⟨At, ct, hAt, -, -, hNt⟩ := htl.nums
  rw [nlK_len] at hAt
  injection hAt with hAt1 hAt2 hAt3
  rw [← hAt1] at hNt
  obtain ⟨off1, hoff1⟩ : ∃ off1, Hid ((if cap = 1 then some (⟨g, off, none⟩ : Addr) else (some (⟨g, off, none⟩ : Addr)).map (·.add 1)) = some ⟨g, off1, none⟩) := by
    by_cases e : cap = 1
    · exact ⟨off, by unfold Hid; rw [if_pos e]⟩
    · exact ⟨off + 1, by unfold Hid; rw [if_neg e]; simp [Addr.add]⟩
  rw [hoff1.out] at hNt
  have htl9 : t.length ≤ 900 := by have := hO.row i; rw [hr] at this; simp at this; omega
  have hyn := hO.mem i y (by rw [hr]; simp)
  have hsz : B ≤ w.heap.size := h.sz
  have a2 : ∀ o, (w.alloc o).cell? ⟨b.br, 0, none⟩ = some (.slice (some ⟨b.H, 0, none⟩) n n) := fun o => ((h.alloc o).vars).2.2.1
  have a0 : ∀ o, (w.alloc o).cell? ⟨b.H, i, none⟩ = some (.slice (some ⟨g, off, none⟩) (t.length + 1) cap) := fun o => by rw [(h.alloc o).hcell hi, hvq]
  have hE : Hid (∀ w' : World, w'.heap = (w.alloc (.cells #[] 3)).heap → OwnInts w' B (.slice (some ⟨w.heap.size, 0, none⟩) 0 0) []) := fun w' e => ownsG_blk (ownsG_low (World.ownsRow_lit w #[] 0 (Nat.le_refl _) (by unfold maxLen; omega) (by simp)) hsz) (fun q _ => by rw [e])
  have hN : Hid (∀ w' : World, w'.heap = (w.alloc (.cells #[] 3)).heap → Nums w' w.heap.size (some ⟨g, off1, none⟩) (nlK t)) := fun w' e => hNt.keep fun p hp => by
    have h1 : w'.cell? p = (w.alloc (.cells #[] 3)).cell? p := by simp only [World.cell?, e]
    rw [h1]
    exact ((Below.refl w.heap.size w).alloc (Nat.le_refl _) _).cell hp
  have hlt : ([] : List Int).length + (nlK t).length ≤ 1000 := by rw [nlK_len]; simp; omega
  have hgrown : Hid (∀ wa : World, (w.alloc (.cells #[] 3)).grownBy wa (some w.heap.size) → w.grownBy wa none) := fun wa hg => ⟨hg.os, hg.tape, hg.output, by have := hg.size; simp at this; omega, fun q hq _ => (hg.block q (by simp; omega) (fun e => by injection e with e; omega)).trans (Below.heap_alloc w _ q hq)⟩
  have hgrow2 : Hid (∀ wa : World, w.grownBy wa none → w.grownBy wa (vs i).ownBlock) := fun wa hg => ⟨hg.os, hg.tape, hg.output, hg.size, fun q hq _ => hg.block q hq (by simp)⟩
  have hm1 : Hid ((⟨b.H, i, none⟩ : Addr) ≠ ⟨b.br, 0, none⟩) := fun e => rowG_ne h.rH h.rb (by decide) (by injection e)
  have hlowH : Hid (B ≤ b.H) := h.lo.2.2.2.2.2.1
  have hcut : Hid (∀ j, j < n → up1 (rwK S) i (nlK t) j = rwK (S.cut i) j) := fun j _ => by
    show _ = nlK (up1 S.row i (S.row i).tail j)
    by_cases e : j = i
    · rw [e, up1_same, up1_same, hr]; rfl
    · rw [up1_other _ _ e, up1_other _ _ e]; rfl
  have hzb : (((t.length + 1 : Nat) : Int) == 0) = false := by rw [beq_eq_false_iff_ne]; omega
  have hm1b : (1 : Int) ≤ ((t.length + 1 : Nat) : Int) := by omega
  have hm1c : (1 : Int) ≤ (t.length : Int) + 1 := by omega
  have hoff2 : (if cap = 1 then some (⟨g, off, none⟩ : Addr) else some (⟨g, off + 1, none⟩ : Addr)) = some ⟨g, off1, none⟩ := by
    rw [← hoff1.out]
    simp [Addr.add]
  have hc1I : ((t.length + 1 : Nat) : Int) ≤ (cap : Int) := by omega
  clear htl hfam hNt hc3 hvq hAt1 hAt2 hAt3
  obtain ⟨jl, hi1, hz1, hz2, hz3⟩ := info_parts infoLt
  have hLi := Lib.hid hi1; have hLz := Lib.hid hz1; have hLs := Lib.hid hz2; have hLb := Lib.hid hz3
  clear hi1 hz1 hz2 hz3
  have hyb : ((y : Int) == (i : Int)) = false := by rw [beq_eq_false_iff_ne]; omega
  have hpass : Hid (∀ j, j < n → ptK ((S.cut i).aim i y) j = up1 (ptK S) i (y : Int) j) := fun j _ => by
    show ((up1 S.ptr i y j : Nat) : Int) = _
    by_cases e : j = i
    · rw [e, up1_same, up1_same]
    · rw [up1_other _ _ e, up1_other _ _ e]; rfl
  have hpas2 : Hid (∀ j, j < n → up1 (holdB S) i false j = holdB ((S.cut i).aim i y) j) := fun j _ => by
    show _ = decide (up1 S.ptr i y j = j)
    by_cases e : j = i
    · rw [e, up1_same, up1_same]; exact (decide_eq_false hyi).symm
    · rw [up1_other _ _ e, up1_other _ _ e]; rfl
  have hRL1 := Lib.hid (hRL0.put hi hyn (fun e => hyi e.symm) 1)
  have hS : Hid (S.serve i = (((S.cut i).aim i y).put i y 1).put i y 0) := by
    cases t with
    | nil => exact absurd rfl ht
    | cons z t => exact serve_more hp hin hr hyi
  have hRL2 := Lib.hid (hRL1.out.put hi hyn (fun e => hyi e.symm) 0)
  have htp : (0 : Int) < (t.length : Int) := by
    have := List.length_pos_iff.2 ht
    omega
  clear hO hr hp hin hRL0 h ht
  go_enter Try.func22, Try.ntmps22
  go_wp2_with fail
  refine wp_region_held_drew (S := fun w' => w'.cell? ⟨b.br, 0, none⟩ = some (.slice (some ⟨b.H, 0, none⟩) n n)) (by kernel_rfl) ?_ (fun hHeld => ?_)
  · exact x2
  refine wpAnyH_take (i := 0) (v := ?_) rfl (by kernel_rfl) (by kernel_rfl) (by kernel_rfl) (fun _ _ _ h => h) (Or.inl ⟨by rfl, ?_⟩) (by assumption) ?_
  rotate_left
  · (intro w hSw; (try dsimp only at hSw); first | (go_simp; done) | (go_simp; with_reducible rfl))
  try simp only [Act.put, List.setIfInBounds_toArray, List.set_cons_zero, List.set_cons_succ]
  refine wpAnyH_take (i := 1) (v := ?_) rfl (by kernel_rfl) (by kernel_rfl) (by kernel_rfl) (fun _ _ _ h => h) (Or.inl ⟨by rfl, ?_⟩) (by assumption) ?_
  rotate_left
  · (intro w hSw; (try dsimp only at hSw); first | (go_simp; done) | (go_simp; with_reducible rfl))
  try simp only [Act.put, List.setIfInBounds_toArray, List.set_cons_zero, List.set_cons_succ]
  refine wpAnyH_take (i := 3) (v := ?_) rfl (by kernel_rfl) (by kernel_rfl) (by kernel_rfl) (fun _ _ _ h => h) (Or.inl ⟨by rfl, ?_⟩) (by assumption) ?_
  rotate_left
  · (intro w hSw; (try dsimp only at hSw); first | (go_simp; done) | (go_simp; with_reducible rfl))
  try simp only [Act.put, List.setIfInBounds_toArray, List.set_cons_zero, List.set_cons_succ]
  refine wpAnyH_take (i := 4) (v := ?_) rfl (by kernel_rfl) (by kernel_rfl) (by kernel_rfl) (fun _ _ _ h => h) (Or.inl ⟨by rfl, ?_⟩) (by assumption) ?_
  rotate_left
  · (intro w hSw; (try dsimp only at hSw); first | (go_simp; done) | (go_simp; with_reducible rfl))
  try simp only [Act.put, List.setIfInBounds_toArray, List.set_cons_zero, List.set_cons_succ]
  refine wpAnyH_take (i := 5) (v := ?_) rfl (by kernel_rfl) (by kernel_rfl) (by kernel_rfl) (fun _ _ _ h => h) (Or.inl ⟨by rfl, ?_⟩) (by assumption) ?_
  rotate_left
  · (intro w hSw; (try dsimp only at hSw); first | (go_simp; done) | (go_simp; with_reducible rfl))
  try simp only [Act.put, List.setIfInBounds_toArray, List.set_cons_zero, List.set_cons_succ]
  refine wpAnyH_ready (rs := [2, 6]) (by kernel_rfl) (by simp) ?_
  refine AllReadyH.cons rfl (fun K hK => ?_) (AllReadyH.cons rfl (fun K hK => ?_) AllReadyH.nil)
  · go_simp
    refine hK.out _ _ ?_ (fun hHeld => ?_)
    · exact a2 _
    clear hK K
    try simp only [Act.put, List.setIfInBounds_toArray, List.set_cons_zero, List.set_cons_succ]
    refine wpAnyH_ready (rs := [6]) (by kernel_rfl) (by simp) ?_
    refine AllReadyH.cons rfl (fun K hK => ?_) AllReadyH.nil
    go_simp
    refine hK.out _ _ ?_ (fun hHeld => ?_)
    · exact a2 _
    clear hK K
    try simp only [Act.put, List.setIfInBounds_toArray, List.set_cons_zero, List.set_cons_succ]
    refine wpAnyH_take (i := 7) (v := ?_) rfl (by kernel_rfl) (by kernel_rfl) (by kernel_rfl) (fun _ _ _ h => h) (Or.inl ⟨by rfl, ?_⟩) (by assumption) ?_
    rotate_left
    · (intro w hSw; (try dsimp only at hSw); first | (go_simp; done) | (go_simp; with_reducible rfl))
    try simp only [Act.put, List.setIfInBounds_toArray, List.set_cons_zero, List.set_cons_succ]
    refine wpAnyH_ready (rs := [8]) (by kernel_rfl) (by simp) ?_
    refine AllReadyH.cons rfl (fun K hK => ?_) AllReadyH.nil
    refine step_append_ints rfl (.tmp 35) (.tmp 40) rfl B (.slice (some ⟨w.heap.size, 0, none⟩) 0 0) [] rfl (hE.out _ rfl) g off1 (cap - 1) t.length (nlK t) (nlK_len t) rfl w.heap.size (hN.out _ rfl) hlt (by simp; omega) ?_
    intro va wa hQ2 hg2 hat2
    rw [List.nil_append] at hQ2
    have hgr : w.grownBy wa none := hgrown.out wa ⟨hg2.os, hg2.tape, hg2.output, hg2.size, hg2.block⟩
    have hQ3 := hQ2.que
    obtain ⟨Av, cv, hva, -, -, -⟩ := hQ3.shape
    rw [nlK_len] at hva
    subst hva
    have e0 : wa.cell? ⟨b.H, i, none⟩ = some (.slice (some ⟨g, off, none⟩) (t.length + 1) cap) := hgr.cell h0 (by simp)
    have ef : wa.frozen? ⟨b.H, i, none⟩ = false := (hR.out.rH.grown hgr (by simp)).frozen i
    have e1 : wa.cell? ⟨b.br, 0, none⟩ = some (.slice (some ⟨b.H, 0, none⟩) n n) := hgr.cell x2 (by simp)
    have hk2 : ∀ v, (wa.setCell ⟨b.H, i, none⟩ v).cell? ⟨b.br, 0, none⟩ = some (.slice (some ⟨b.H, 0, none⟩) n n) := fun v => (World.cell?_setCell_other _ _ _ _ hm1.out).trans e1
    refine hK.out _ _ ?_ (fun hHeld => ?_)
    · exact e1
    clear hK K
    try simp only [Act.put, List.setIfInBounds_toArray, List.set_cons_zero, List.set_cons_succ]
    refine wpAnyH_take (i := 9) (v := ?_) rfl (by kernel_rfl) (by kernel_rfl) (by kernel_rfl) (fun _ _ _ h => h) (Or.inl ⟨by rfl, ?_⟩) (by assumption) ?_
    rotate_left
    · (intro w hSw; (try dsimp only at hSw); first | (go_simp; done) | (go_simp; with_reducible rfl))
    try simp only [Act.put, List.setIfInBounds_toArray, List.set_cons_zero, List.set_cons_succ]
    refine wpAnyH_ready (rs := [10]) (by kernel_rfl) (by simp) ?_
    refine AllReadyH.cons rfl (fun K hK => ?_) AllReadyH.nil
    go_simp
    refine hK.out _ _ ?_ (fun hHeld => ?_)
    · exact hk2 _
    clear hK K
    try simp only [Act.put, List.setIfInBounds_toArray, List.set_cons_zero, List.set_cons_succ]
    refine wpAnyH_done (by kernel_rfl) ?_ _
    have hat3 : (Value.slice Av t.length cv).ownBlock = none ∨ (Value.slice Av t.length cv).ownBlock = (vs i).ownBlock ∨ ∃ q, (Value.slice Av t.length cv).ownBlock = some q ∧ w.heap.size ≤ q := by
      rcases hat2 with h | h
      · exact .inr (.inr ⟨_, h, Nat.le_refl _⟩)
      · exact .inr (.inr ⟨_, h, by simp⟩)
    have hR5 := Lib.hid (hR.out.putQ (j := i) hi hQ3 (hgrow2.out wa hgr) hat3)
    have hB5 := Lib.hid ((BlM.refl B w).grown hgr hsz (by simp) (by simp) |>.setRow (p := ⟨b.H, i, none⟩) (hR.out.rH.grown hgr (by simp)) (by decide) hlowH.out (.slice Av t.length cv))
    clear hk2 e0 ef e1 hQ2 hg2 hat2 hgr hQ3 hat3
    have hR6 := Lib.hid (((hR5.out.setA_ i false).setP_ hi (y : Int)).congr hpass.out hpas2.out (fun _ _ => rfl) hcut.out)
    have hlo := hR5.out.lo
    have hB7 := Lib.hid ((hB5.out.setRow (p := ⟨b.A, i, none⟩) hR5.out.rA (by decide) hlo.2.2.2.2.2.2.2.1 (.bool false)).setRow (p := ⟨b.P, i, none⟩) (hR5.out.setA_ i false).rP.row.choose_spec (by decide) hlo.2.2.2.1 (.int .i64 (y : Int)))
    obtain ⟨y0, y1, y2, y3, y4, y5⟩ := hR5.out.vars
    have q0 := BRowG.at_ hR5.out.rA hi
    have qf0 := Row.frozen hR5.out.rA i
    have q1 := hR5.out.rP.at_ hi
    have qf1 := hR5.out.rP.frozen i
    have n1 : b.bp ≠ b.A := rowG_ne hR5.out.rp hR5.out.rA (by decide)
    have n2 : b.P ≠ b.A := rowG_ne hR5.out.rP.row.choose_spec hR5.out.rA (by decide)
    have n3 : b.bw ≠ b.A := rowG_ne hR5.out.rW hR5.out.rA (by decide)
    have n4 : b.bw ≠ b.P := rowG_ne hR5.out.rW hR5.out.rP.row.choose_spec (by decide)
    clear hlo
    generalize wa.setCell ⟨b.H, i, none⟩ (.slice Av t.length cv) = w5 at *
    have hRa2 := Lib.hid (hR6.out.alloc (.cells #[.int .i64 (i : Int), .int .i64 (y : Int), .int .i64 1] 52))
    have hBa2 := Lib.hid (hB7.out.alloc hR6.out.sz (.cells #[.int .i64 (i : Int), .int .i64 (y : Int), .int .i64 1] 52))
    have hol2 := Lib.hid hRa2.out.ol
    have hsa2 := Lib.hid hRa2.out.sz
    have hln2 : Hid (L.length ≤ 10000) := Nat.le_trans hL (by omega)
    have hnw2 := Lib.hid (newsL (g := w5.heap.size) (w := (w5.setCell ⟨b.A, i, none⟩ (.bool false)).setCell ⟨b.P, i, none⟩ (.int .i64 (y : Int))) ⟨(i : Int), (y : Int), 1⟩ (by simp))
    clear hR5 hB5 hR hE hN hgrown hgrow2 x0 x1 x2 x3 x4 x5 h0 hy0 a0 a2 y1 y2 y5 hpass hpas2 hcut
    generalize ptK S i = pz at *
    go_wp2_with (first
      | (at_builtin; refine wpList_append_let rfl (.tmp 56) (.tmp 60) rfl jl hLi.out hLz.out hLs.out hLb.out B vl L ⟨(i : Int), (y : Int), 1⟩ rfl hol2.out _ rfl hnw2.out hln2.out hsa2.out ?_; intro va2 wa2 hO2 hg2
         obtain ⟨A2, c2, hv2, hl21, hl22, -⟩ := hO2.shape
         obtain ⟨lv2, hlv2⟩ : ∃ lv, Hid ((L ++ [(⟨(i : Int), (y : Int), 1⟩ : Lt)]).length = lv) := ⟨_, rfl⟩
         rw [hlv2.out] at hv2 hl21
         subst hv2
         have hR8 := Lib.hid (hRa2.out.letters hO2 hg2)
         have hBl2 : Hid (BlM B w (wa2.setCell ⟨b.bw, 0, none⟩ (.slice A2 lv2 c2))) := (hBa2.out.grown hg2 hsa2.out (fun q hq => (World.ownsRow.lt hol2.out q hq).1) (fun g xs hr => owns_ne_row hol2.out hr (by decide))).setRow (p := ⟨b.bw, 0, none⟩) (hRa2.out.rW.grown hg2 (fun e => owns_ne_row hol2.out hRa2.out.rW (by decide) e.symm)) (by decide) hRa2.out.lo.2.2.2.2.2.2.2.2.2.2.1 _
         have z4 := (hRa2.out.rW.grown hg2 (fun e => owns_ne_row hol2.out hRa2.out.rW (by decide) e.symm)).cell (i := 0) (by simp)
         have zf := (hRa2.out.rW.grown hg2 (fun e => owns_ne_row hol2.out hRa2.out.rW (by decide) e.symm)).frozen 0
         simp only [List.getElem_cons_zero] at z4
         obtain ⟨u0, u1, u2, u3, u4, u5⟩ := hR8.out.vars
         have uh := hR8.out.hcell hi
         rw [up1_same] at uh
         have hRa3 := Lib.hid (hR8.out.alloc (.cells #[.int .i64 (i : Int), .int .i64 (y : Int), .int .i64 0] 52))
         have hBa3 := Lib.hid (hBl2.out.alloc hR8.out.sz (.cells #[.int .i64 (i : Int), .int .i64 (y : Int), .int .i64 0] 52))
         have hol3 := Lib.hid hRa3.out.ol
         have hsa3 := Lib.hid hRa3.out.sz
         have hln3 : Hid ((L ++ [(⟨(i : Int), (y : Int), 1⟩ : Lt)]).length ≤ 10000) := (by unfold Hid; rw [List.length_append, List.length_singleton]; omega)
         have hnw3 := Lib.hid (newsL (g := wa2.heap.size) (w := wa2.setCell ⟨b.bw, 0, none⟩ (.slice A2 lv2 c2)) ⟨(i : Int), (y : Int), 0⟩ (by simp))
         clear hO2 hg2 hRa2 hBa2 hol2 hsa2 hnw2 u0 u1 u3 u5 y0 y3 y4 q0 qf0 q1 qf1)
      | (at_builtin; refine wpList_append_let rfl (.tmp 68) (.tmp 72) rfl jl hLi.out hLz.out hLs.out hLb.out B (.slice A2 lv2 c2) (L ++ [(⟨(i : Int), (y : Int), 1⟩ : Lt)]) ⟨(i : Int), (y : Int), 0⟩ rfl hol3.out _ rfl hnw3.out hln3.out hsa3.out ?_; intro va3 wa3 hO3 hg3
         obtain ⟨A3, c3, hv3, hl31, hl32, -⟩ := hO3.shape
         obtain ⟨lv3, hlv3⟩ : ∃ lv, Hid (((L ++ [(⟨(i : Int), (y : Int), 1⟩ : Lt)]) ++ [(⟨(i : Int), (y : Int), 0⟩ : Lt)]).length = lv) := ⟨_, rfl⟩
         rw [hlv3.out] at hv3 hl31
         subst hv3
         have hR9 := Lib.hid (hRa3.out.letters hO3 hg3)
         have hBl3 : Hid (BlM B w (wa3.setCell ⟨b.bw, 0, none⟩ (.slice A3 lv3 c3))) := (hBa3.out.grown hg3 hsa3.out (fun q hq => (World.ownsRow.lt hol3.out q hq).1) (fun g xs hr => owns_ne_row hol3.out hr (by decide))).setRow (p := ⟨b.bw, 0, none⟩) (hRa3.out.rW.grown hg3 (fun e => owns_ne_row hol3.out hRa3.out.rW (by decide) e.symm)) (by decide) hRa3.out.lo.2.2.2.2.2.2.2.2.2.2.1 _
         have z4 := (hRa3.out.rW.grown hg3 (fun e => owns_ne_row hol3.out hRa3.out.rW (by decide) e.symm)).cell (i := 0) (by simp)
         have zf := (hRa3.out.rW.grown hg3 (fun e => owns_ne_row hol3.out hRa3.out.rW (by decide) e.symm)).frozen 0
         simp only [List.getElem_cons_zero] at z4
         obtain ⟨u0, u1, u2, u3, u4, u5⟩ := hR9.out.vars
         have uh := hR9.out.hcell hi
         rw [up1_same] at uh
         clear hO3 hg3 hRa3 hBa3 hol3 hsa3 hnw3 u0 u1 u2 u3 u5 uh))
    go_end0
    exact ⟨rfl, ⟨_, _, _, _, by rw [hS.out]; exact hR9.out, by rw [hS.out]; exact hRL2.out, by have := hlv2.out; have := hlv3.out; simp at *; omega⟩, hBl3.out⟩
  · go_simp
    refine hK.out _ _ ?_ (fun hHeld => ?_)
    · exact hHeld
    clear hK K
    try simp only [Act.put, List.setIfInBounds_toArray, List.set_cons_zero, List.set_cons_succ]
    refine wpAnyH_take (i := 7) (v := ?_) rfl (by kernel_rfl) (by kernel_rfl) (by kernel_rfl) (fun _ _ _ h => h) (Or.inl ⟨by rfl, ?_⟩) (by assumption) ?_
    rotate_left
    · (intro w hSw; (try dsimp only at hSw); first | (go_simp; done) | (go_simp; with_reducible rfl))
    try simp only [Act.put, List.setIfInBounds_toArray, List.set_cons_zero, List.set_cons_succ]
    refine wpAnyH_ready (rs := [2]) (by kernel_rfl) (by simp) ?_
    refine AllReadyH.cons rfl (fun K hK => ?_) AllReadyH.nil
    go_simp
    refine hK.out _ _ ?_ (fun hHeld => ?_)
    · exact a2 _
    clear hK K
    try simp only [Act.put, List.setIfInBounds_toArray, List.set_cons_zero, List.set_cons_succ]
    refine wpAnyH_ready (rs := [8]) (by kernel_rfl) (by simp) ?_
    refine AllReadyH.cons rfl (fun K hK => ?_) AllReadyH.nil
    refine step_append_ints rfl (.tmp 35) (.tmp 40) rfl B (.slice (some ⟨w.heap.size, 0, none⟩) 0 0) [] rfl (hE.out _ rfl) g off1 (cap - 1) t.length (nlK t) (nlK_len t) rfl w.heap.size (hN.out _ rfl) hlt (by simp; omega) ?_
    intro va wa hQ2 hg2 hat2
    rw [List.nil_append] at hQ2
    have hgr : w.grownBy wa none := hgrown.out wa ⟨hg2.os, hg2.tape, hg2.output, hg2.size, hg2.block⟩
    have hQ3 := hQ2.que
    obtain ⟨Av, cv, hva, -, -, -⟩ := hQ3.shape
    rw [nlK_len] at hva
    subst hva
    have e0 : wa.cell? ⟨b.H, i, none⟩ = some (.slice (some ⟨g, off, none⟩) (t.length + 1) cap) := hgr.cell h0 (by simp)
    have ef : wa.frozen? ⟨b.H, i, none⟩ = false := (hR.out.rH.grown hgr (by simp)).frozen i
    have e1 : wa.cell? ⟨b.br, 0, none⟩ = some (.slice (some ⟨b.H, 0, none⟩) n n) := hgr.cell x2 (by simp)
    have hk2 : ∀ v, (wa.setCell ⟨b.H, i, none⟩ v).cell? ⟨b.br, 0, none⟩ = some (.slice (some ⟨b.H, 0, none⟩) n n) := fun v => (World.cell?_setCell_other _ _ _ _ hm1.out).trans e1
    refine hK.out _ _ ?_ (fun hHeld => ?_)
    · exact e1
    clear hK K
    try simp only [Act.put, List.setIfInBounds_toArray, List.set_cons_zero, List.set_cons_succ]
    refine wpAnyH_take (i := 9) (v := ?_) rfl (by kernel_rfl) (by kernel_rfl) (by kernel_rfl) (fun _ _ _ h => h) (Or.inl ⟨by rfl, ?_⟩) (by assumption) ?_
    rotate_left
    · (intro w hSw; (try dsimp only at hSw); first | (go_simp; done) | (go_simp; with_reducible rfl))
    try simp only [Act.put, List.setIfInBounds_toArray, List.set_cons_zero, List.set_cons_succ]
    refine wpAnyH_ready (rs := [10]) (by kernel_rfl) (by simp) ?_
    refine AllReadyH.cons rfl (fun K hK => ?_) AllReadyH.nil
    go_simp
    refine hK.out _ _ ?_ (fun hHeld => ?_)
    · exact hk2 _
    clear hK K
    try simp only [Act.put, List.setIfInBounds_toArray, List.set_cons_zero, List.set_cons_succ]
    refine wpAnyH_done (by kernel_rfl) ?_ _
    have hat3 : (Value.slice Av t.length cv).ownBlock = none ∨ (Value.slice Av t.length cv).ownBlock = (vs i).ownBlock ∨ ∃ q, (Value.slice Av t.length cv).ownBlock = some q ∧ w.heap.size ≤ q := by
      rcases hat2 with h | h
      · exact .inr (.inr ⟨_, h, Nat.le_refl _⟩)
      · exact .inr (.inr ⟨_, h, by simp⟩)
    have hR5 := Lib.hid (hR.out.putQ (j := i) hi hQ3 (hgrow2.out wa hgr) hat3)
    have hB5 := Lib.hid ((BlM.refl B w).grown hgr hsz (by simp) (by simp) |>.setRow (p := ⟨b.H, i, none⟩) (hR.out.rH.grown hgr (by simp)) (by decide) hlowH.out (.slice Av t.length cv))
    clear hk2 e0 ef e1 hQ2 hg2 hat2 hgr hQ3 hat3
    have hR6 := Lib.hid (((hR5.out.setA_ i false).setP_ hi (y : Int)).congr hpass.out hpas2.out (fun _ _ => rfl) hcut.out)
    have hlo := hR5.out.lo
    have hB7 := Lib.hid ((hB5.out.setRow (p := ⟨b.A, i, none⟩) hR5.out.rA (by decide) hlo.2.2.2.2.2.2.2.1 (.bool false)).setRow (p := ⟨b.P, i, none⟩) (hR5.out.setA_ i false).rP.row.choose_spec (by decide) hlo.2.2.2.1 (.int .i64 (y : Int)))
    obtain ⟨y0, y1, y2, y3, y4, y5⟩ := hR5.out.vars
    have q0 := BRowG.at_ hR5.out.rA hi
    have qf0 := Row.frozen hR5.out.rA i
    have q1 := hR5.out.rP.at_ hi
    have qf1 := hR5.out.rP.frozen i
    have n1 : b.bp ≠ b.A := rowG_ne hR5.out.rp hR5.out.rA (by decide)
    have n2 : b.P ≠ b.A := rowG_ne hR5.out.rP.row.choose_spec hR5.out.rA (by decide)
    have n3 : b.bw ≠ b.A := rowG_ne hR5.out.rW hR5.out.rA (by decide)
    have n4 : b.bw ≠ b.P := rowG_ne hR5.out.rW hR5.out.rP.row.choose_spec (by decide)
    clear hlo
    generalize wa.setCell ⟨b.H, i, none⟩ (.slice Av t.length cv) = w5 at *
    have hRa2 := Lib.hid (hR6.out.alloc (.cells #[.int .i64 (i : Int), .int .i64 (y : Int), .int .i64 1] 52))
    have hBa2 := Lib.hid (hB7.out.alloc hR6.out.sz (.cells #[.int .i64 (i : Int), .int .i64 (y : Int), .int .i64 1] 52))
    have hol2 := Lib.hid hRa2.out.ol
    have hsa2 := Lib.hid hRa2.out.sz
    have hln2 : Hid (L.length ≤ 10000) := Nat.le_trans hL (by omega)
    have hnw2 := Lib.hid (newsL (g := w5.heap.size) (w := (w5.setCell ⟨b.A, i, none⟩ (.bool false)).setCell ⟨b.P, i, none⟩ (.int .i64 (y : Int))) ⟨(i : Int), (y : Int), 1⟩ (by simp))
    clear hR5 hB5 hR hE hN hgrown hgrow2 x0 x1 x2 x3 x4 x5 h0 hy0 a0 a2 y1 y2 y5 hpass hpas2 hcut
    generalize ptK S i = pz at *
    go_wp2_with (first
      | (at_builtin; refine wpList_append_let rfl (.tmp 56) (.tmp 60) rfl jl hLi.out hLz.out hLs.out hLb.out B vl L ⟨(i : Int), (y : Int), 1⟩ rfl hol2.out _ rfl hnw2.out hln2.out hsa2.out ?_; intro va2 wa2 hO2 hg2
         obtain ⟨A2, c2, hv2, hl21, hl22, -⟩ := hO2.shape
         obtain ⟨lv2, hlv2⟩ : ∃ lv, Hid ((L ++ [(⟨(i : Int), (y : Int), 1⟩ : Lt)]).length = lv) := ⟨_, rfl⟩
         rw [hlv2.out] at hv2 hl21
         subst hv2
         have hR8 := Lib.hid (hRa2.out.letters hO2 hg2)
         have hBl2 : Hid (BlM B w (wa2.setCell ⟨b.bw, 0, none⟩ (.slice A2 lv2 c2))) := (hBa2.out.grown hg2 hsa2.out (fun q hq => (World.ownsRow.lt hol2.out q hq).1) (fun g xs hr => owns_ne_row hol2.out hr (by decide))).setRow (p := ⟨b.bw, 0, none⟩) (hRa2.out.rW.grown hg2 (fun e => owns_ne_row hol2.out hRa2.out.rW (by decide) e.symm)) (by decide) hRa2.out.lo.2.2.2.2.2.2.2.2.2.2.1 _
         have z4 := (hRa2.out.rW.grown hg2 (fun e => owns_ne_row hol2.out hRa2.out.rW (by decide) e.symm)).cell (i := 0) (by simp)
         have zf := (hRa2.out.rW.grown hg2 (fun e => owns_ne_row hol2.out hRa2.out.rW (by decide) e.symm)).frozen 0
         simp only [List.getElem_cons_zero] at z4
         obtain ⟨u0, u1, u2, u3, u4, u5⟩ := hR8.out.vars
         have uh := hR8.out.hcell hi
         rw [up1_same] at uh
         have hRa3 := Lib.hid (hR8.out.alloc (.cells #[.int .i64 (i : Int), .int .i64 (y : Int), .int .i64 0] 52))
         have hBa3 := Lib.hid (hBl2.out.alloc hR8.out.sz (.cells #[.int .i64 (i : Int), .int .i64 (y : Int), .int .i64 0] 52))
         have hol3 := Lib.hid hRa3.out.ol
         have hsa3 := Lib.hid hRa3.out.sz
         have hln3 : Hid ((L ++ [(⟨(i : Int), (y : Int), 1⟩ : Lt)]).length ≤ 10000) := (by unfold Hid; rw [List.length_append, List.length_singleton]; omega)
         have hnw3 := Lib.hid (newsL (g := wa2.heap.size) (w := wa2.setCell ⟨b.bw, 0, none⟩ (.slice A2 lv2 c2)) ⟨(i : Int), (y : Int), 0⟩ (by simp))
         clear hO2 hg2 hRa2 hBa2 hol2 hsa2 hnw2 u0 u1 u3 u5 y0 y3 y4 q0 qf0 q1 qf1)
      | (at_builtin; refine wpList_append_let rfl (.tmp 68) (.tmp 72) rfl jl hLi.out hLz.out hLs.out hLb.out B (.slice A2 lv2 c2) (L ++ [(⟨(i : Int), (y : Int), 1⟩ : Lt)]) ⟨(i : Int), (y : Int), 0⟩ rfl hol3.out _ rfl hnw3.out hln3.out hsa3.out ?_; intro va3 wa3 hO3 hg3
         obtain ⟨A3, c3, hv3, hl31, hl32, -⟩ := hO3.shape
         obtain ⟨lv3, hlv3⟩ : ∃ lv, Hid (((L ++ [(⟨(i : Int), (y : Int), 1⟩ : Lt)]) ++ [(⟨(i : Int), (y : Int), 0⟩ : Lt)]).length = lv) := ⟨_, rfl⟩
         rw [hlv3.out] at hv3 hl31
         subst hv3
         have hR9 := Lib.hid (hRa3.out.letters hO3 hg3)
         have hBl3 : Hid (BlM B w (wa3.setCell ⟨b.bw, 0, none⟩ (.slice A3 lv3 c3))) := (hBa3.out.grown hg3 hsa3.out (fun q hq => (World.ownsRow.lt hol3.out q hq).1) (fun g xs hr => owns_ne_row hol3.out hr (by decide))).setRow (p := ⟨b.bw, 0, none⟩) (hRa3.out.rW.grown hg3 (fun e => owns_ne_row hol3.out hRa3.out.rW (by decide) e.symm)) (by decide) hRa3.out.lo.2.2.2.2.2.2.2.2.2.2.1 _
         have z4 := (hRa3.out.rW.grown hg3 (fun e => owns_ne_row hol3.out hRa3.out.rW (by decide) e.symm)).cell (i := 0) (by simp)
         have zf := (hRa3.out.rW.grown hg3 (fun e => owns_ne_row hol3.out hRa3.out.rW (by decide) e.symm)).frozen 0
         simp only [List.getElem_cons_zero] at z4
         obtain ⟨u0, u1, u2, u3, u4, u5⟩ := hR9.out.vars
         have uh := hR9.out.hcell hi
         rw [up1_same] at uh
         clear hO3 hg3 hRa3 hBa3 hol3 hsa3 hnw3 u0 u1 u2 u3 u5 uh))
    go_end0
    exact ⟨rfl, ⟨_, _, _, _, by rw [hS.out]; exact hR9.out, by rw [hS.out]; exact hRL2.out, by have := hlv2.out; have := hlv3.out; simp at *; omega⟩, hBl3.out⟩

theorem give_any (w : World) (B n : Nat) (b : KB) (S : KS) (N : Nat) (cs : List Int) (h : RkS w B n b S N cs) (hO : OkK n S 900) (hN5 : N ≤ 5000) (i : Nat) (hi : i < n) (hn : n ≤ 6) :
    Calls Try.prog 22 #[.int .i64 (i : Int), .pointer (some ⟨b.bh, 0, none⟩), .pointer (some ⟨b.bi, 0, none⟩), .pointer (some ⟨b.br, 0, none⟩), .pointer (some ⟨b.bp, 0, none⟩), .pointer (some ⟨b.bw, 0, none⟩)] w (GvK B n b (N + 2) cs w (S.serve i)) := by
  by_cases hp : S.ptr i = i
  · cases hin : S.ins i with
    | true =>
      rw [serve_in hin]
      exact give_none w B n b S N cs h i hi hn (.inr (.inl hin))
    | false =>
      cases hr : S.row i with
      | nil =>
        rw [serve_nil hr]
        exact give_none w B n b S N cs h i hi hn (.inr (.inr hr))
      | cons y t =>
        by_cases hyi : y = i
        · exact give_own w B n b S N cs h hO hN5 i hi hn hp hin y t hr hyi
        · by_cases ht : t = []
          · exact give_last w B n b S N cs h hO hN5 i hi hn hp hin y t hr hyi ht
          · exact give_more w B n b S N cs h hO hN5 i hi hn hp hin y t hr hyi ht
  · rw [serve_far hp]
    exact give_none w B n b S N cs h i hi hn (.inl hp)

#print axioms give_none
#print axioms give_any
end Go.Proofs.Ytejckoffllhjcaa
