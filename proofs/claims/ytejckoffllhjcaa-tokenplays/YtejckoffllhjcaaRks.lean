/-
  The contract of beaconryref.Token's second closure. (GENERATED: gen/rks.py.)
-/
import Derived.Test.YtejckoffllhjcaaRkg
import Derived.Test.YtejckoffllhjcaaKeq
namespace Go.Proofs.Ytejckoffllhjcaa
open Go.RowKit Go.Maps
set_option linter.unusedVariables false
set_option linter.unusedSimpArgs false

set_option maxHeartbeats 4000000 in
theorem stand_same (w : World) (B n : Nat) (b : KB) (S : KS) (N : Nat) (cs : List Int) (h : RkS w B n b S N cs) (hO : OkK n S 800) (hN5 : N ≤ 4000) (i y : Nat) (hi : i < n) (hy : y < n) (hn : n ≤ 6) (hr : S.row i = []) (hp : S.ptr i = i) :
    Calls Try.prog 23 #[.int .i64 (i : Int), .int .i64 (y : Int), .pointer (some ⟨b.br, 0, none⟩), .pointer (some ⟨b.bp, 0, none⟩), .pointer (some ⟨b.bw, 0, none⟩), .pointer (some ⟨b.bg, 0, none⟩)] w (GvK B n b (N + 3) cs w (S.enq i y)) := by
  obtain ⟨vs, vl, L, vc, h, hRL0, hL⟩ := h
  obtain ⟨x0, x1, x2, x3, x4, x5⟩ := h.vars
  have hRL := Lib.hid hRL0
  have hR := Lib.hid h
  have hiI : (i : Int) < (n : Int) := by omega
  obtain ⟨ji, hi0, hz0, hz1, hz2⟩ := info_parts infoInt
  have hJi := Lib.hid hi0; have hJz := Lib.hid hz0; have hJs := Lib.hid hz1; have hJb := Lib.hid hz2
  clear hi0 hz0 hz1 hz2
  obtain ⟨v0, hv0⟩ : ∃ v0, Hid (vs i = v0) := ⟨_, rfl⟩
  have h0 := h.hcell hi
  rw [hv0.out] at h0
  have a2 : ∀ o, (w.alloc o).cell? ⟨b.br, 0, none⟩ = some (.slice (some ⟨b.H, 0, none⟩) n n) := fun o => ((h.alloc o).vars).2.2.1
  have a0 : ∀ o, (w.alloc o).cell? ⟨b.H, i, none⟩ = some v0 := fun o => by rw [(h.alloc o).hcell hi, hv0.out]
  have hRa := Lib.hid (h.alloc (.cells #[.int .i64 (y : Int)] 3))
  have hBa := Lib.hid ((BlM.refl B w).alloc h.sz (.cells #[.int .i64 (y : Int)] 3))
  have hszA := Lib.hid hRa.out.sz
  have hq0 := hRa.out.fam i hi
  rw [hv0.out] at hq0
  have hQ : Hid (∀ w' : World, w'.heap = (w.alloc (.cells #[.int .i64 (y : Int)] 3)).heap → QueT 3 w' B v0 (rwK S i)) := fun w' e => hq0.block fun g _ => by rw [e]
  have hnw : Hid (∀ w' : World, w'.heap = (w.alloc (.cells #[.int .i64 (y : Int)] 3)).heap → w'.cell? ⟨w.heap.size, 0, none⟩ = some (.int .i64 (y : Int))) := fun w' e => (Row.block (Row.made w 3 [.int .i64 (y : Int)]) (by rw [e])).cell (i := 0) (by simp)
  have hsz : B ≤ w.heap.size := h.sz
  have hlq : (rwK S i).length ≤ 1000 := by unfold rwK; rw [nlK_len]; have := hO.row i; omega
  have hn1 : Hid (v0.ownBlock ≠ some b.H) := hq0.ne_row hRa.out.rH (by decide)
  have hn2 : Hid (v0.ownBlock ≠ some b.br) := hq0.ne_row hRa.out.rb (by decide)
  have hm1 : Hid ((⟨b.H, i, none⟩ : Addr) ≠ ⟨b.br, 0, none⟩) := fun e => rowG_ne h.rH h.rb (by decide) (by injection e)
  have hlowH : Hid (B ≤ b.H) := h.lo.2.2.2.2.2.1
  obtain ⟨lv, hlv⟩ : ∃ lv, Hid ((rwK S i ++ [(y : Int)]).length = lv) := ⟨_, rfl⟩
  have hadd : Hid (∀ j, j < n → up1 (rwK S) i (rwK S i ++ [(y : Int)]) j = rwK (S.add i y) j) := fun j _ => by
    show _ = nlK (up1 S.row i (S.row i ++ [y]) j)
    by_cases e : j = i
    · rw [e, up1_same, up1_same, nlK_add]; rfl
    · rw [up1_other _ _ e, up1_other _ _ e]; rfl
  have hOa := Lib.hid ((hO.add (i := i) hy).up (show 800 + 1 ≤ 900 by omega))
  have hrow1 : Hid (lv = (S.row i).length + 1) := by
    unfold Hid
    rw [← hlv.out, List.length_append]
    unfold rwK
    rw [nlK_len]; rfl
  clear hq0
  have hS : Hid (S.enq i y = (S.add i y).serve i) := by unfold Hid KS.enq; rw [ask_no (.inr hp)]
  have hlb : ((lv : Int) == 1) = true := by rw [beq_iff_eq]; have := hrow1.out; rw [hr] at this; simp at this; omega
  have hpb : (ptK S i != (i : Int)) = false := by rw [bne_eq_false_iff_eq]; unfold ptK; rw [hp]
  clear hO hr hp hRL0 h
  go_enter Try.func23, Try.ntmps23
  go_wp2_with fail
  refine wp_region_held_drew (S := fun w' => w'.cell? ⟨b.br, 0, none⟩ = some (.slice (some ⟨b.H, 0, none⟩) n n)) (by kernel_rfl) ?_ (fun hHeld => ?_)
  · exact x2
  refine wpAnyH_take (i := 0) (v := ?_) rfl (by kernel_rfl) (by kernel_rfl) (by kernel_rfl) (fun _ _ _ h => h) (Or.inl ⟨by rfl, ?_⟩) (by assumption) ?_
  rotate_left
  · (intro w hSw; (try dsimp only at hSw); first | (go_simp; done) | (go_simp; with_reducible rfl))
  try simp only [Act.put, List.setIfInBounds_toArray, List.set_cons_zero, List.set_cons_succ]
  refine wpAnyH_take (i := 1) (v := ?_) rfl (by kernel_rfl) (by kernel_rfl) (by kernel_rfl) (fun _ _ _ h => h) (Or.inl ⟨by rfl, ?_⟩) (by assumption) ?_
  rotate_left
  · (intro w hSw; (try dsimp only at hSw); first | (go_simp; done) | (go_simp; with_reducible rfl))
  try simp only [Act.put, List.setIfInBounds_toArray, List.set_cons_zero, List.set_cons_succ]
  refine wpAnyH_take (i := 2) (v := ?_) rfl (by kernel_rfl) (by kernel_rfl) (by kernel_rfl) (fun _ _ _ h => h) (Or.inl ⟨by rfl, ?_⟩) (by assumption) ?_
  rotate_left
  · (intro w hSw; (try dsimp only at hSw); first | (go_simp; done) | (go_simp; with_reducible rfl))
  try simp only [Act.put, List.setIfInBounds_toArray, List.set_cons_zero, List.set_cons_succ]
  refine wpAnyH_take (i := 3) (v := ?_) rfl (by kernel_rfl) (by kernel_rfl) (by kernel_rfl) (fun _ _ _ h => h) (Or.inl ⟨by rfl, ?_⟩) (by assumption) ?_
  rotate_left
  · (intro w hSw; (try dsimp only at hSw); first | (go_simp; done) | (go_simp; with_reducible rfl))
  try simp only [Act.put, List.setIfInBounds_toArray, List.set_cons_zero, List.set_cons_succ]
  refine wpAnyH_take (i := 4) (v := ?_) rfl (by kernel_rfl) (by kernel_rfl) (by kernel_rfl) (fun _ _ _ h => h) (Or.inl ⟨by rfl, ?_⟩) (by assumption) ?_
  rotate_left
  · (intro w hSw; (try dsimp only at hSw); first | (go_simp; done) | (go_simp; with_reducible rfl))
  try simp only [Act.put, List.setIfInBounds_toArray, List.set_cons_zero, List.set_cons_succ]
  refine wpAnyH_take (i := 6) (v := ?_) rfl (by kernel_rfl) (by kernel_rfl) (by kernel_rfl) (fun _ _ _ h => h) (Or.inl ⟨by rfl, ?_⟩) (by assumption) ?_
  rotate_left
  · (intro w hSw; (try dsimp only at hSw); first | (go_simp; done) | (go_simp; with_reducible rfl))
  try simp only [Act.put, List.setIfInBounds_toArray, List.set_cons_zero, List.set_cons_succ]
  refine wpAnyH_ready (rs := [5, 7]) (by kernel_rfl) (by simp) ?_
  refine AllReadyH.cons rfl (fun K hK => ?_) (AllReadyH.cons rfl (fun K hK => ?_) AllReadyH.nil)
  · go_simp
    refine hK.out _ _ ?_ (fun hHeld => ?_)
    · exact hHeld
    clear hK K
    try simp only [Act.put, List.setIfInBounds_toArray, List.set_cons_zero, List.set_cons_succ]
    refine wpAnyH_ready (rs := [7]) (by kernel_rfl) (by simp) ?_
    refine AllReadyH.cons rfl (fun K hK => ?_) AllReadyH.nil
    go_simp
    refine hK.out _ _ ?_ (fun hHeld => ?_)
    · exact a2 _
    clear hK K
    try simp only [Act.put, List.setIfInBounds_toArray, List.set_cons_zero, List.set_cons_succ]
    refine wpAnyH_ready (rs := [8]) (by kernel_rfl) (by simp) ?_
    refine AllReadyH.cons rfl (fun K hK => ?_) AllReadyH.nil
    refine step_append_queI rfl (.tmp 13) (.tmp 15) rfl ji hJi.out hJz.out hJs.out hJb.out B v0 (rwK S i) rfl (hQ.out _ rfl) (by simp; omega) hlq ⟨w.heap.size, 0, none⟩ (y : Int) rfl (hnw.out _ rfl) ?_
    intro va wa hQ2 hg2 hat2
    obtain ⟨Av, cv, hva, -, -, -⟩ := hQ2.shape
    rw [hlv.out] at hva
    subst hva
    have hgr : (w.alloc (.cells #[.int .i64 (y : Int)] 3)).grownBy wa v0.ownBlock := ⟨hg2.os, hg2.tape, hg2.output, hg2.size, hg2.block⟩
    have e0 : wa.cell? ⟨b.H, i, none⟩ = some v0 := hgr.cell (a0 _) (fun e => hn1.out e.symm)
    have ef : wa.frozen? ⟨b.H, i, none⟩ = false := (hRa.out.rH.grown hgr (fun e => hn1.out e.symm)).frozen i
    have e1 : wa.cell? ⟨b.br, 0, none⟩ = some (.slice (some ⟨b.H, 0, none⟩) n n) := hgr.cell (a2 _) (fun e => hn2.out e.symm)
    have hk2 : ∀ v, (wa.setCell ⟨b.H, i, none⟩ v).cell? ⟨b.br, 0, none⟩ = some (.slice (some ⟨b.H, 0, none⟩) n n) := fun v => (World.cell?_setCell_other _ _ _ _ hm1.out).trans e1
    refine hK.out _ _ ?_ (fun hHeld => ?_)
    · exact e1
    clear hK K
    try simp only [Act.put, List.setIfInBounds_toArray, List.set_cons_zero, List.set_cons_succ]
    refine wpAnyH_take (i := 9) (v := ?_) rfl (by kernel_rfl) (by kernel_rfl) (by kernel_rfl) (fun _ _ _ h => h) (Or.inl ⟨by rfl, ?_⟩) (by assumption) ?_
    rotate_left
    · (intro w hSw; (try dsimp only at hSw); first | (go_simp; done) | (go_simp; with_reducible rfl))
    try simp only [Act.put, List.setIfInBounds_toArray, List.set_cons_zero, List.set_cons_succ]
    refine wpAnyH_ready (rs := [10]) (by kernel_rfl) (by simp) ?_
    refine AllReadyH.cons rfl (fun K hK => ?_) AllReadyH.nil
    go_simp
    refine hK.out _ _ ?_ (fun hHeld => ?_)
    · exact hk2 _
    clear hK K
    try simp only [Act.put, List.setIfInBounds_toArray, List.set_cons_zero, List.set_cons_succ]
    refine wpAnyH_done (by kernel_rfl) ?_ _
    have hR5 := Lib.hid (hRa.out.putQ (j := i) hi hQ2 (by rw [hv0.out]; exact hgr) (by rw [hv0.out]; rcases hat2 with h | h; exact .inr (.inl h); exact .inr (.inr ⟨_, h, Nat.le_refl _⟩)))
    have hB5 := Lib.hid ((hBa.out.grown hgr hszA.out (fun q hq => ((hQ.out _ rfl).lt hq).1) (fun g xs hr => (hQ.out _ rfl).ne_row hr (by decide))).setRow (p := ⟨b.H, i, none⟩) (hRa.out.rH.grown hgr (fun e => hn1.out e.symm)) (by decide) hlowH.out (.slice Av lv cv))
    clear hk2 e0 ef e1 hQ2 hg2 hat2 hgr
    have hR6 := Lib.hid (hR5.out.congr (fun _ _ => rfl) (fun _ _ => rfl) (fun _ _ => rfl) hadd.out)
    obtain ⟨y0, y1, y2, y3, y4, y5⟩ := hR6.out.vars
    have yh := hR6.out.hcell hi
    rw [up1_same] at yh
    have yp := hR6.out.rP.at_ hi
    generalize wa.setCell ⟨b.H, i, none⟩ (.slice Av lv cv) = w5 at *
    have hS5 : RkS w5 B n b (S.add i y) N cs := ⟨_, _, _, _, hR6.out, hRL.out, hL⟩
    have hgive := Lib.hid (give_any w5 B n b (S.add i y) N cs hS5 hOa.out (by omega) i hi hn)
    clear hS5 hR5 hR6 hRa hBa hR hQ hnw x0 x1 x2 x3 x4 x5 h0 a0 a2 y0 y1 y4
    unfold giveF at y5
    generalize ptK S i = z at *
    go_wp2_with fail
    refine hgive.out.mono ?_
    rintro e w9 ⟨rfl, hR9, hB9⟩
    have hR9H := Lib.hid hR9
    clear hR9
    go_wp2_with fail
    go_end0
    exact ⟨rfl, by rw [hS.out]; exact hR9H.out.more (by omega), hB5.out.trans hB9⟩
  · go_simp
    refine hK.out _ _ ?_ (fun hHeld => ?_)
    · exact a2 _
    clear hK K
    try simp only [Act.put, List.setIfInBounds_toArray, List.set_cons_zero, List.set_cons_succ]
    refine wpAnyH_ready (rs := [5]) (by kernel_rfl) (by simp) ?_
    refine AllReadyH.cons rfl (fun K hK => ?_) AllReadyH.nil
    go_simp
    refine hK.out _ _ ?_ (fun hHeld => ?_)
    · exact a2 _
    clear hK K
    try simp only [Act.put, List.setIfInBounds_toArray, List.set_cons_zero, List.set_cons_succ]
    refine wpAnyH_ready (rs := [8]) (by kernel_rfl) (by simp) ?_
    refine AllReadyH.cons rfl (fun K hK => ?_) AllReadyH.nil
    refine step_append_queI rfl (.tmp 13) (.tmp 15) rfl ji hJi.out hJz.out hJs.out hJb.out B v0 (rwK S i) rfl (hQ.out _ rfl) (by simp; omega) hlq ⟨w.heap.size, 0, none⟩ (y : Int) rfl (hnw.out _ rfl) ?_
    intro va wa hQ2 hg2 hat2
    obtain ⟨Av, cv, hva, -, -, -⟩ := hQ2.shape
    rw [hlv.out] at hva
    subst hva
    have hgr : (w.alloc (.cells #[.int .i64 (y : Int)] 3)).grownBy wa v0.ownBlock := ⟨hg2.os, hg2.tape, hg2.output, hg2.size, hg2.block⟩
    have e0 : wa.cell? ⟨b.H, i, none⟩ = some v0 := hgr.cell (a0 _) (fun e => hn1.out e.symm)
    have ef : wa.frozen? ⟨b.H, i, none⟩ = false := (hRa.out.rH.grown hgr (fun e => hn1.out e.symm)).frozen i
    have e1 : wa.cell? ⟨b.br, 0, none⟩ = some (.slice (some ⟨b.H, 0, none⟩) n n) := hgr.cell (a2 _) (fun e => hn2.out e.symm)
    have hk2 : ∀ v, (wa.setCell ⟨b.H, i, none⟩ v).cell? ⟨b.br, 0, none⟩ = some (.slice (some ⟨b.H, 0, none⟩) n n) := fun v => (World.cell?_setCell_other _ _ _ _ hm1.out).trans e1
    refine hK.out _ _ ?_ (fun hHeld => ?_)
    · exact e1
    clear hK K
    try simp only [Act.put, List.setIfInBounds_toArray, List.set_cons_zero, List.set_cons_succ]
    refine wpAnyH_take (i := 9) (v := ?_) rfl (by kernel_rfl) (by kernel_rfl) (by kernel_rfl) (fun _ _ _ h => h) (Or.inl ⟨by rfl, ?_⟩) (by assumption) ?_
    rotate_left
    · (intro w hSw; (try dsimp only at hSw); first | (go_simp; done) | (go_simp; with_reducible rfl))
    try simp only [Act.put, List.setIfInBounds_toArray, List.set_cons_zero, List.set_cons_succ]
    refine wpAnyH_ready (rs := [10]) (by kernel_rfl) (by simp) ?_
    refine AllReadyH.cons rfl (fun K hK => ?_) AllReadyH.nil
    go_simp
    refine hK.out _ _ ?_ (fun hHeld => ?_)
    · exact hk2 _
    clear hK K
    try simp only [Act.put, List.setIfInBounds_toArray, List.set_cons_zero, List.set_cons_succ]
    refine wpAnyH_done (by kernel_rfl) ?_ _
    have hR5 := Lib.hid (hRa.out.putQ (j := i) hi hQ2 (by rw [hv0.out]; exact hgr) (by rw [hv0.out]; rcases hat2 with h | h; exact .inr (.inl h); exact .inr (.inr ⟨_, h, Nat.le_refl _⟩)))
    have hB5 := Lib.hid ((hBa.out.grown hgr hszA.out (fun q hq => ((hQ.out _ rfl).lt hq).1) (fun g xs hr => (hQ.out _ rfl).ne_row hr (by decide))).setRow (p := ⟨b.H, i, none⟩) (hRa.out.rH.grown hgr (fun e => hn1.out e.symm)) (by decide) hlowH.out (.slice Av lv cv))
    clear hk2 e0 ef e1 hQ2 hg2 hat2 hgr
    have hR6 := Lib.hid (hR5.out.congr (fun _ _ => rfl) (fun _ _ => rfl) (fun _ _ => rfl) hadd.out)
    obtain ⟨y0, y1, y2, y3, y4, y5⟩ := hR6.out.vars
    have yh := hR6.out.hcell hi
    rw [up1_same] at yh
    have yp := hR6.out.rP.at_ hi
    generalize wa.setCell ⟨b.H, i, none⟩ (.slice Av lv cv) = w5 at *
    have hS5 : RkS w5 B n b (S.add i y) N cs := ⟨_, _, _, _, hR6.out, hRL.out, hL⟩
    have hgive := Lib.hid (give_any w5 B n b (S.add i y) N cs hS5 hOa.out (by omega) i hi hn)
    clear hS5 hR5 hR6 hRa hBa hR hQ hnw x0 x1 x2 x3 x4 x5 h0 a0 a2 y0 y1 y4
    unfold giveF at y5
    generalize ptK S i = z at *
    go_wp2_with fail
    refine hgive.out.mono ?_
    rintro e w9 ⟨rfl, hR9, hB9⟩
    have hR9H := Lib.hid hR9
    clear hR9
    go_wp2_with fail
    go_end0
    exact ⟨rfl, by rw [hS.out]; exact hR9H.out.more (by omega), hB5.out.trans hB9⟩
set_option maxHeartbeats 4000000 in
theorem stand_more (w : World) (B n : Nat) (b : KB) (S : KS) (N : Nat) (cs : List Int) (h : RkS w B n b S N cs) (hO : OkK n S 800) (hN5 : N ≤ 4000) (i y : Nat) (hi : i < n) (hy : y < n) (hn : n ≤ 6) (hr : S.row i ≠ []) :
    Calls Try.prog 23 #[.int .i64 (i : Int), .int .i64 (y : Int), .pointer (some ⟨b.br, 0, none⟩), .pointer (some ⟨b.bp, 0, none⟩), .pointer (some ⟨b.bw, 0, none⟩), .pointer (some ⟨b.bg, 0, none⟩)] w (GvK B n b (N + 3) cs w (S.enq i y)) := by
  obtain ⟨vs, vl, L, vc, h, hRL0, hL⟩ := h
  obtain ⟨x0, x1, x2, x3, x4, x5⟩ := h.vars
  have hRL := Lib.hid hRL0
  have hR := Lib.hid h
  have hiI : (i : Int) < (n : Int) := by omega
  obtain ⟨ji, hi0, hz0, hz1, hz2⟩ := info_parts infoInt
  have hJi := Lib.hid hi0; have hJz := Lib.hid hz0; have hJs := Lib.hid hz1; have hJb := Lib.hid hz2
  clear hi0 hz0 hz1 hz2
  obtain ⟨v0, hv0⟩ : ∃ v0, Hid (vs i = v0) := ⟨_, rfl⟩
  have h0 := h.hcell hi
  rw [hv0.out] at h0
  have a2 : ∀ o, (w.alloc o).cell? ⟨b.br, 0, none⟩ = some (.slice (some ⟨b.H, 0, none⟩) n n) := fun o => ((h.alloc o).vars).2.2.1
  have a0 : ∀ o, (w.alloc o).cell? ⟨b.H, i, none⟩ = some v0 := fun o => by rw [(h.alloc o).hcell hi, hv0.out]
  have hRa := Lib.hid (h.alloc (.cells #[.int .i64 (y : Int)] 3))
  have hBa := Lib.hid ((BlM.refl B w).alloc h.sz (.cells #[.int .i64 (y : Int)] 3))
  have hszA := Lib.hid hRa.out.sz
  have hq0 := hRa.out.fam i hi
  rw [hv0.out] at hq0
  have hQ : Hid (∀ w' : World, w'.heap = (w.alloc (.cells #[.int .i64 (y : Int)] 3)).heap → QueT 3 w' B v0 (rwK S i)) := fun w' e => hq0.block fun g _ => by rw [e]
  have hnw : Hid (∀ w' : World, w'.heap = (w.alloc (.cells #[.int .i64 (y : Int)] 3)).heap → w'.cell? ⟨w.heap.size, 0, none⟩ = some (.int .i64 (y : Int))) := fun w' e => (Row.block (Row.made w 3 [.int .i64 (y : Int)]) (by rw [e])).cell (i := 0) (by simp)
  have hsz : B ≤ w.heap.size := h.sz
  have hlq : (rwK S i).length ≤ 1000 := by unfold rwK; rw [nlK_len]; have := hO.row i; omega
  have hn1 : Hid (v0.ownBlock ≠ some b.H) := hq0.ne_row hRa.out.rH (by decide)
  have hn2 : Hid (v0.ownBlock ≠ some b.br) := hq0.ne_row hRa.out.rb (by decide)
  have hm1 : Hid ((⟨b.H, i, none⟩ : Addr) ≠ ⟨b.br, 0, none⟩) := fun e => rowG_ne h.rH h.rb (by decide) (by injection e)
  have hlowH : Hid (B ≤ b.H) := h.lo.2.2.2.2.2.1
  obtain ⟨lv, hlv⟩ : ∃ lv, Hid ((rwK S i ++ [(y : Int)]).length = lv) := ⟨_, rfl⟩
  have hadd : Hid (∀ j, j < n → up1 (rwK S) i (rwK S i ++ [(y : Int)]) j = rwK (S.add i y) j) := fun j _ => by
    show _ = nlK (up1 S.row i (S.row i ++ [y]) j)
    by_cases e : j = i
    · rw [e, up1_same, up1_same, nlK_add]; rfl
    · rw [up1_other _ _ e, up1_other _ _ e]; rfl
  have hOa := Lib.hid ((hO.add (i := i) hy).up (show 800 + 1 ≤ 900 by omega))
  have hrow1 : Hid (lv = (S.row i).length + 1) := by
    unfold Hid
    rw [← hlv.out, List.length_append]
    unfold rwK
    rw [nlK_len]; rfl
  clear hq0
  have hS : Hid (S.enq i y = (S.add i y).serve i) := by unfold Hid KS.enq; rw [ask_no (.inl hr)]
  have hlb : ((lv : Int) == 1) = false := by
    rw [beq_eq_false_iff_ne]
    have := hrow1.out
    have := List.length_pos_iff.2 hr
    omega
  clear hO hr hRL0 h
  go_enter Try.func23, Try.ntmps23
  go_wp2_with fail
  refine wp_region_held_drew (S := fun w' => w'.cell? ⟨b.br, 0, none⟩ = some (.slice (some ⟨b.H, 0, none⟩) n n)) (by kernel_rfl) ?_ (fun hHeld => ?_)
  · exact x2
  refine wpAnyH_take (i := 0) (v := ?_) rfl (by kernel_rfl) (by kernel_rfl) (by kernel_rfl) (fun _ _ _ h => h) (Or.inl ⟨by rfl, ?_⟩) (by assumption) ?_
  rotate_left
  · (intro w hSw; (try dsimp only at hSw); first | (go_simp; done) | (go_simp; with_reducible rfl))
  try simp only [Act.put, List.setIfInBounds_toArray, List.set_cons_zero, List.set_cons_succ]
  refine wpAnyH_take (i := 1) (v := ?_) rfl (by kernel_rfl) (by kernel_rfl) (by kernel_rfl) (fun _ _ _ h => h) (Or.inl ⟨by rfl, ?_⟩) (by assumption) ?_
  rotate_left
  · (intro w hSw; (try dsimp only at hSw); first | (go_simp; done) | (go_simp; with_reducible rfl))
  try simp only [Act.put, List.setIfInBounds_toArray, List.set_cons_zero, List.set_cons_succ]
  refine wpAnyH_take (i := 2) (v := ?_) rfl (by kernel_rfl) (by kernel_rfl) (by kernel_rfl) (fun _ _ _ h => h) (Or.inl ⟨by rfl, ?_⟩) (by assumption) ?_
  rotate_left
  · (intro w hSw; (try dsimp only at hSw); first | (go_simp; done) | (go_simp; with_reducible rfl))
  try simp only [Act.put, List.setIfInBounds_toArray, List.set_cons_zero, List.set_cons_succ]
  refine wpAnyH_take (i := 3) (v := ?_) rfl (by kernel_rfl) (by kernel_rfl) (by kernel_rfl) (fun _ _ _ h => h) (Or.inl ⟨by rfl, ?_⟩) (by assumption) ?_
  rotate_left
  · (intro w hSw; (try dsimp only at hSw); first | (go_simp; done) | (go_simp; with_reducible rfl))
  try simp only [Act.put, List.setIfInBounds_toArray, List.set_cons_zero, List.set_cons_succ]
  refine wpAnyH_take (i := 4) (v := ?_) rfl (by kernel_rfl) (by kernel_rfl) (by kernel_rfl) (fun _ _ _ h => h) (Or.inl ⟨by rfl, ?_⟩) (by assumption) ?_
  rotate_left
  · (intro w hSw; (try dsimp only at hSw); first | (go_simp; done) | (go_simp; with_reducible rfl))
  try simp only [Act.put, List.setIfInBounds_toArray, List.set_cons_zero, List.set_cons_succ]
  refine wpAnyH_take (i := 6) (v := ?_) rfl (by kernel_rfl) (by kernel_rfl) (by kernel_rfl) (fun _ _ _ h => h) (Or.inl ⟨by rfl, ?_⟩) (by assumption) ?_
  rotate_left
  · (intro w hSw; (try dsimp only at hSw); first | (go_simp; done) | (go_simp; with_reducible rfl))
  try simp only [Act.put, List.setIfInBounds_toArray, List.set_cons_zero, List.set_cons_succ]
  refine wpAnyH_ready (rs := [5, 7]) (by kernel_rfl) (by simp) ?_
  refine AllReadyH.cons rfl (fun K hK => ?_) (AllReadyH.cons rfl (fun K hK => ?_) AllReadyH.nil)
  · go_simp
    refine hK.out _ _ ?_ (fun hHeld => ?_)
    · exact hHeld
    clear hK K
    try simp only [Act.put, List.setIfInBounds_toArray, List.set_cons_zero, List.set_cons_succ]
    refine wpAnyH_ready (rs := [7]) (by kernel_rfl) (by simp) ?_
    refine AllReadyH.cons rfl (fun K hK => ?_) AllReadyH.nil
    go_simp
    refine hK.out _ _ ?_ (fun hHeld => ?_)
    · exact a2 _
    clear hK K
    try simp only [Act.put, List.setIfInBounds_toArray, List.set_cons_zero, List.set_cons_succ]
    refine wpAnyH_ready (rs := [8]) (by kernel_rfl) (by simp) ?_
    refine AllReadyH.cons rfl (fun K hK => ?_) AllReadyH.nil
    refine step_append_queI rfl (.tmp 13) (.tmp 15) rfl ji hJi.out hJz.out hJs.out hJb.out B v0 (rwK S i) rfl (hQ.out _ rfl) (by simp; omega) hlq ⟨w.heap.size, 0, none⟩ (y : Int) rfl (hnw.out _ rfl) ?_
    intro va wa hQ2 hg2 hat2
    obtain ⟨Av, cv, hva, -, -, -⟩ := hQ2.shape
    rw [hlv.out] at hva
    subst hva
    have hgr : (w.alloc (.cells #[.int .i64 (y : Int)] 3)).grownBy wa v0.ownBlock := ⟨hg2.os, hg2.tape, hg2.output, hg2.size, hg2.block⟩
    have e0 : wa.cell? ⟨b.H, i, none⟩ = some v0 := hgr.cell (a0 _) (fun e => hn1.out e.symm)
    have ef : wa.frozen? ⟨b.H, i, none⟩ = false := (hRa.out.rH.grown hgr (fun e => hn1.out e.symm)).frozen i
    have e1 : wa.cell? ⟨b.br, 0, none⟩ = some (.slice (some ⟨b.H, 0, none⟩) n n) := hgr.cell (a2 _) (fun e => hn2.out e.symm)
    have hk2 : ∀ v, (wa.setCell ⟨b.H, i, none⟩ v).cell? ⟨b.br, 0, none⟩ = some (.slice (some ⟨b.H, 0, none⟩) n n) := fun v => (World.cell?_setCell_other _ _ _ _ hm1.out).trans e1
    refine hK.out _ _ ?_ (fun hHeld => ?_)
    · exact e1
    clear hK K
    try simp only [Act.put, List.setIfInBounds_toArray, List.set_cons_zero, List.set_cons_succ]
    refine wpAnyH_take (i := 9) (v := ?_) rfl (by kernel_rfl) (by kernel_rfl) (by kernel_rfl) (fun _ _ _ h => h) (Or.inl ⟨by rfl, ?_⟩) (by assumption) ?_
    rotate_left
    · (intro w hSw; (try dsimp only at hSw); first | (go_simp; done) | (go_simp; with_reducible rfl))
    try simp only [Act.put, List.setIfInBounds_toArray, List.set_cons_zero, List.set_cons_succ]
    refine wpAnyH_ready (rs := [10]) (by kernel_rfl) (by simp) ?_
    refine AllReadyH.cons rfl (fun K hK => ?_) AllReadyH.nil
    go_simp
    refine hK.out _ _ ?_ (fun hHeld => ?_)
    · exact hk2 _
    clear hK K
    try simp only [Act.put, List.setIfInBounds_toArray, List.set_cons_zero, List.set_cons_succ]
    refine wpAnyH_done (by kernel_rfl) ?_ _
    have hR5 := Lib.hid (hRa.out.putQ (j := i) hi hQ2 (by rw [hv0.out]; exact hgr) (by rw [hv0.out]; rcases hat2 with h | h; exact .inr (.inl h); exact .inr (.inr ⟨_, h, Nat.le_refl _⟩)))
    have hB5 := Lib.hid ((hBa.out.grown hgr hszA.out (fun q hq => ((hQ.out _ rfl).lt hq).1) (fun g xs hr => (hQ.out _ rfl).ne_row hr (by decide))).setRow (p := ⟨b.H, i, none⟩) (hRa.out.rH.grown hgr (fun e => hn1.out e.symm)) (by decide) hlowH.out (.slice Av lv cv))
    clear hk2 e0 ef e1 hQ2 hg2 hat2 hgr
    have hR6 := Lib.hid (hR5.out.congr (fun _ _ => rfl) (fun _ _ => rfl) (fun _ _ => rfl) hadd.out)
    obtain ⟨y0, y1, y2, y3, y4, y5⟩ := hR6.out.vars
    have yh := hR6.out.hcell hi
    rw [up1_same] at yh
    have yp := hR6.out.rP.at_ hi
    generalize wa.setCell ⟨b.H, i, none⟩ (.slice Av lv cv) = w5 at *
    have hS5 : RkS w5 B n b (S.add i y) N cs := ⟨_, _, _, _, hR6.out, hRL.out, hL⟩
    have hgive := Lib.hid (give_any w5 B n b (S.add i y) N cs hS5 hOa.out (by omega) i hi hn)
    clear hS5 hR5 hR6 hRa hBa hR hQ hnw x0 x1 x2 x3 x4 x5 h0 a0 a2 y0 y1 y4
    unfold giveF at y5
    generalize ptK S i = z at *
    go_wp2_with fail
    refine hgive.out.mono ?_
    rintro e w9 ⟨rfl, hR9, hB9⟩
    have hR9H := Lib.hid hR9
    clear hR9
    go_wp2_with fail
    go_end0
    exact ⟨rfl, by rw [hS.out]; exact hR9H.out.more (by omega), hB5.out.trans hB9⟩
  · go_simp
    refine hK.out _ _ ?_ (fun hHeld => ?_)
    · exact a2 _
    clear hK K
    try simp only [Act.put, List.setIfInBounds_toArray, List.set_cons_zero, List.set_cons_succ]
    refine wpAnyH_ready (rs := [5]) (by kernel_rfl) (by simp) ?_
    refine AllReadyH.cons rfl (fun K hK => ?_) AllReadyH.nil
    go_simp
    refine hK.out _ _ ?_ (fun hHeld => ?_)
    · exact a2 _
    clear hK K
    try simp only [Act.put, List.setIfInBounds_toArray, List.set_cons_zero, List.set_cons_succ]
    refine wpAnyH_ready (rs := [8]) (by kernel_rfl) (by simp) ?_
    refine AllReadyH.cons rfl (fun K hK => ?_) AllReadyH.nil
    refine step_append_queI rfl (.tmp 13) (.tmp 15) rfl ji hJi.out hJz.out hJs.out hJb.out B v0 (rwK S i) rfl (hQ.out _ rfl) (by simp; omega) hlq ⟨w.heap.size, 0, none⟩ (y : Int) rfl (hnw.out _ rfl) ?_
    intro va wa hQ2 hg2 hat2
    obtain ⟨Av, cv, hva, -, -, -⟩ := hQ2.shape
    rw [hlv.out] at hva
    subst hva
    have hgr : (w.alloc (.cells #[.int .i64 (y : Int)] 3)).grownBy wa v0.ownBlock := ⟨hg2.os, hg2.tape, hg2.output, hg2.size, hg2.block⟩
    have e0 : wa.cell? ⟨b.H, i, none⟩ = some v0 := hgr.cell (a0 _) (fun e => hn1.out e.symm)
    have ef : wa.frozen? ⟨b.H, i, none⟩ = false := (hRa.out.rH.grown hgr (fun e => hn1.out e.symm)).frozen i
    have e1 : wa.cell? ⟨b.br, 0, none⟩ = some (.slice (some ⟨b.H, 0, none⟩) n n) := hgr.cell (a2 _) (fun e => hn2.out e.symm)
    have hk2 : ∀ v, (wa.setCell ⟨b.H, i, none⟩ v).cell? ⟨b.br, 0, none⟩ = some (.slice (some ⟨b.H, 0, none⟩) n n) := fun v => (World.cell?_setCell_other _ _ _ _ hm1.out).trans e1
    refine hK.out _ _ ?_ (fun hHeld => ?_)
    · exact e1
    clear hK K
    try simp only [Act.put, List.setIfInBounds_toArray, List.set_cons_zero, List.set_cons_succ]
    refine wpAnyH_take (i := 9) (v := ?_) rfl (by kernel_rfl) (by kernel_rfl) (by kernel_rfl) (fun _ _ _ h => h) (Or.inl ⟨by rfl, ?_⟩) (by assumption) ?_
    rotate_left
    · (intro w hSw; (try dsimp only at hSw); first | (go_simp; done) | (go_simp; with_reducible rfl))
    try simp only [Act.put, List.setIfInBounds_toArray, List.set_cons_zero, List.set_cons_succ]
    refine wpAnyH_ready (rs := [10]) (by kernel_rfl) (by simp) ?_
    refine AllReadyH.cons rfl (fun K hK => ?_) AllReadyH.nil
    go_simp
    refine hK.out _ _ ?_ (fun hHeld => ?_)
    · exact hk2 _
    clear hK K
    try simp only [Act.put, List.setIfInBounds_toArray, List.set_cons_zero, List.set_cons_succ]
    refine wpAnyH_done (by kernel_rfl) ?_ _
    have hR5 := Lib.hid (hRa.out.putQ (j := i) hi hQ2 (by rw [hv0.out]; exact hgr) (by rw [hv0.out]; rcases hat2 with h | h; exact .inr (.inl h); exact .inr (.inr ⟨_, h, Nat.le_refl _⟩)))
    have hB5 := Lib.hid ((hBa.out.grown hgr hszA.out (fun q hq => ((hQ.out _ rfl).lt hq).1) (fun g xs hr => (hQ.out _ rfl).ne_row hr (by decide))).setRow (p := ⟨b.H, i, none⟩) (hRa.out.rH.grown hgr (fun e => hn1.out e.symm)) (by decide) hlowH.out (.slice Av lv cv))
    clear hk2 e0 ef e1 hQ2 hg2 hat2 hgr
    have hR6 := Lib.hid (hR5.out.congr (fun _ _ => rfl) (fun _ _ => rfl) (fun _ _ => rfl) hadd.out)
    obtain ⟨y0, y1, y2, y3, y4, y5⟩ := hR6.out.vars
    have yh := hR6.out.hcell hi
    rw [up1_same] at yh
    have yp := hR6.out.rP.at_ hi
    generalize wa.setCell ⟨b.H, i, none⟩ (.slice Av lv cv) = w5 at *
    have hS5 : RkS w5 B n b (S.add i y) N cs := ⟨_, _, _, _, hR6.out, hRL.out, hL⟩
    have hgive := Lib.hid (give_any w5 B n b (S.add i y) N cs hS5 hOa.out (by omega) i hi hn)
    clear hS5 hR5 hR6 hRa hBa hR hQ hnw x0 x1 x2 x3 x4 x5 h0 a0 a2 y0 y1 y4
    unfold giveF at y5
    generalize ptK S i = z at *
    go_wp2_with fail
    refine hgive.out.mono ?_
    rintro e w9 ⟨rfl, hR9, hB9⟩
    have hR9H := Lib.hid hR9
    clear hR9
    go_wp2_with fail
    go_end0
    exact ⟨rfl, by rw [hS.out]; exact hR9H.out.more (by omega), hB5.out.trans hB9⟩
set_option maxHeartbeats 4000000 in
theorem stand_ask (w : World) (B n : Nat) (b : KB) (S : KS) (N : Nat) (cs : List Int) (h : RkS w B n b S N cs) (hO : OkK n S 800) (hN5 : N ≤ 4000) (i y : Nat) (hi : i < n) (hy : y < n) (hn : n ≤ 6) (hr : S.row i = []) (hp : S.ptr i ≠ i) :
    Calls Try.prog 23 #[.int .i64 (i : Int), .int .i64 (y : Int), .pointer (some ⟨b.br, 0, none⟩), .pointer (some ⟨b.bp, 0, none⟩), .pointer (some ⟨b.bw, 0, none⟩), .pointer (some ⟨b.bg, 0, none⟩)] w (GvK B n b (N + 3) cs w (S.enq i y)) := by
  obtain ⟨vs, vl, L, vc, h, hRL0, hL⟩ := h
  obtain ⟨x0, x1, x2, x3, x4, x5⟩ := h.vars
  have hRL := Lib.hid hRL0
  have hR := Lib.hid h
  have hiI : (i : Int) < (n : Int) := by omega
  obtain ⟨ji, hi0, hz0, hz1, hz2⟩ := info_parts infoInt
  have hJi := Lib.hid hi0; have hJz := Lib.hid hz0; have hJs := Lib.hid hz1; have hJb := Lib.hid hz2
  clear hi0 hz0 hz1 hz2
  obtain ⟨v0, hv0⟩ : ∃ v0, Hid (vs i = v0) := ⟨_, rfl⟩
  have h0 := h.hcell hi
  rw [hv0.out] at h0
  have a2 : ∀ o, (w.alloc o).cell? ⟨b.br, 0, none⟩ = some (.slice (some ⟨b.H, 0, none⟩) n n) := fun o => ((h.alloc o).vars).2.2.1
  have a0 : ∀ o, (w.alloc o).cell? ⟨b.H, i, none⟩ = some v0 := fun o => by rw [(h.alloc o).hcell hi, hv0.out]
  have hRa := Lib.hid (h.alloc (.cells #[.int .i64 (y : Int)] 3))
  have hBa := Lib.hid ((BlM.refl B w).alloc h.sz (.cells #[.int .i64 (y : Int)] 3))
  have hszA := Lib.hid hRa.out.sz
  have hq0 := hRa.out.fam i hi
  rw [hv0.out] at hq0
  have hQ : Hid (∀ w' : World, w'.heap = (w.alloc (.cells #[.int .i64 (y : Int)] 3)).heap → QueT 3 w' B v0 (rwK S i)) := fun w' e => hq0.block fun g _ => by rw [e]
  have hnw : Hid (∀ w' : World, w'.heap = (w.alloc (.cells #[.int .i64 (y : Int)] 3)).heap → w'.cell? ⟨w.heap.size, 0, none⟩ = some (.int .i64 (y : Int))) := fun w' e => (Row.block (Row.made w 3 [.int .i64 (y : Int)]) (by rw [e])).cell (i := 0) (by simp)
  have hsz : B ≤ w.heap.size := h.sz
  have hlq : (rwK S i).length ≤ 1000 := by unfold rwK; rw [nlK_len]; have := hO.row i; omega
  have hn1 : Hid (v0.ownBlock ≠ some b.H) := hq0.ne_row hRa.out.rH (by decide)
  have hn2 : Hid (v0.ownBlock ≠ some b.br) := hq0.ne_row hRa.out.rb (by decide)
  have hm1 : Hid ((⟨b.H, i, none⟩ : Addr) ≠ ⟨b.br, 0, none⟩) := fun e => rowG_ne h.rH h.rb (by decide) (by injection e)
  have hlowH : Hid (B ≤ b.H) := h.lo.2.2.2.2.2.1
  obtain ⟨lv, hlv⟩ : ∃ lv, Hid ((rwK S i ++ [(y : Int)]).length = lv) := ⟨_, rfl⟩
  have hadd : Hid (∀ j, j < n → up1 (rwK S) i (rwK S i ++ [(y : Int)]) j = rwK (S.add i y) j) := fun j _ => by
    show _ = nlK (up1 S.row i (S.row i ++ [y]) j)
    by_cases e : j = i
    · rw [e, up1_same, up1_same, nlK_add]; rfl
    · rw [up1_other _ _ e, up1_other _ _ e]; rfl
  have hOa := Lib.hid ((hO.add (i := i) hy).up (show 800 + 1 ≤ 900 by omega))
  have hrow1 : Hid (lv = (S.row i).length + 1) := by
    unfold Hid
    rw [← hlv.out, List.length_append]
    unfold rwK
    rw [nlK_len]; rfl
  clear hq0
  have hS : Hid (S.enq i y = ((S.add i y).put i (S.ptr i) 0).serve i) := by unfold Hid KS.enq; rw [ask_yes hr hp]
  have hlb : ((lv : Int) == 1) = true := by rw [beq_iff_eq]; have := hrow1.out; rw [hr] at this; simp at this; omega
  have hpb : ((S.ptr i : Int) != (i : Int)) = true := by rw [bne_iff_ne]; omega
  obtain ⟨jl, hi1, hz1, hz2, hz3⟩ := info_parts infoLt
  have hLi := Lib.hid hi1; have hLz := Lib.hid hz1; have hLs := Lib.hid hz2; have hLb := Lib.hid hz3
  clear hi1 hz1 hz2 hz3
  have hRL1 : Hid (RelL n ((S.add i y).put i (S.ptr i) 0).q (L ++ [⟨(i : Int), (S.ptr i : Int), 0⟩])) := hRL0.put hi (hO.ptr i hi) (fun e => hp e.symm) 0
  have hOp := Lib.hid (((hO.add (i := i) hy).put i (S.ptr i) 0).up (show 800 + 1 + 1 ≤ 900 by omega))
  clear hO hr hp hRL0 h
  go_enter Try.func23, Try.ntmps23
  go_wp2_with fail
  refine wp_region_held_drew (S := fun w' => w'.cell? ⟨b.br, 0, none⟩ = some (.slice (some ⟨b.H, 0, none⟩) n n)) (by kernel_rfl) ?_ (fun hHeld => ?_)
  · exact x2
  refine wpAnyH_take (i := 0) (v := ?_) rfl (by kernel_rfl) (by kernel_rfl) (by kernel_rfl) (fun _ _ _ h => h) (Or.inl ⟨by rfl, ?_⟩) (by assumption) ?_
  rotate_left
  · (intro w hSw; (try dsimp only at hSw); first | (go_simp; done) | (go_simp; with_reducible rfl))
  try simp only [Act.put, List.setIfInBounds_toArray, List.set_cons_zero, List.set_cons_succ]
  refine wpAnyH_take (i := 1) (v := ?_) rfl (by kernel_rfl) (by kernel_rfl) (by kernel_rfl) (fun _ _ _ h => h) (Or.inl ⟨by rfl, ?_⟩) (by assumption) ?_
  rotate_left
  · (intro w hSw; (try dsimp only at hSw); first | (go_simp; done) | (go_simp; with_reducible rfl))
  try simp only [Act.put, List.setIfInBounds_toArray, List.set_cons_zero, List.set_cons_succ]
  refine wpAnyH_take (i := 2) (v := ?_) rfl (by kernel_rfl) (by kernel_rfl) (by kernel_rfl) (fun _ _ _ h => h) (Or.inl ⟨by rfl, ?_⟩) (by assumption) ?_
  rotate_left
  · (intro w hSw; (try dsimp only at hSw); first | (go_simp; done) | (go_simp; with_reducible rfl))
  try simp only [Act.put, List.setIfInBounds_toArray, List.set_cons_zero, List.set_cons_succ]
  refine wpAnyH_take (i := 3) (v := ?_) rfl (by kernel_rfl) (by kernel_rfl) (by kernel_rfl) (fun _ _ _ h => h) (Or.inl ⟨by rfl, ?_⟩) (by assumption) ?_
  rotate_left
  · (intro w hSw; (try dsimp only at hSw); first | (go_simp; done) | (go_simp; with_reducible rfl))
  try simp only [Act.put, List.setIfInBounds_toArray, List.set_cons_zero, List.set_cons_succ]
  refine wpAnyH_take (i := 4) (v := ?_) rfl (by kernel_rfl) (by kernel_rfl) (by kernel_rfl) (fun _ _ _ h => h) (Or.inl ⟨by rfl, ?_⟩) (by assumption) ?_
  rotate_left
  · (intro w hSw; (try dsimp only at hSw); first | (go_simp; done) | (go_simp; with_reducible rfl))
  try simp only [Act.put, List.setIfInBounds_toArray, List.set_cons_zero, List.set_cons_succ]
  refine wpAnyH_take (i := 6) (v := ?_) rfl (by kernel_rfl) (by kernel_rfl) (by kernel_rfl) (fun _ _ _ h => h) (Or.inl ⟨by rfl, ?_⟩) (by assumption) ?_
  rotate_left
  · (intro w hSw; (try dsimp only at hSw); first | (go_simp; done) | (go_simp; with_reducible rfl))
  try simp only [Act.put, List.setIfInBounds_toArray, List.set_cons_zero, List.set_cons_succ]
  refine wpAnyH_ready (rs := [5, 7]) (by kernel_rfl) (by simp) ?_
  refine AllReadyH.cons rfl (fun K hK => ?_) (AllReadyH.cons rfl (fun K hK => ?_) AllReadyH.nil)
  · go_simp
    refine hK.out _ _ ?_ (fun hHeld => ?_)
    · exact hHeld
    clear hK K
    try simp only [Act.put, List.setIfInBounds_toArray, List.set_cons_zero, List.set_cons_succ]
    refine wpAnyH_ready (rs := [7]) (by kernel_rfl) (by simp) ?_
    refine AllReadyH.cons rfl (fun K hK => ?_) AllReadyH.nil
    go_simp
    refine hK.out _ _ ?_ (fun hHeld => ?_)
    · exact a2 _
    clear hK K
    try simp only [Act.put, List.setIfInBounds_toArray, List.set_cons_zero, List.set_cons_succ]
    refine wpAnyH_ready (rs := [8]) (by kernel_rfl) (by simp) ?_
    refine AllReadyH.cons rfl (fun K hK => ?_) AllReadyH.nil
    refine step_append_queI rfl (.tmp 13) (.tmp 15) rfl ji hJi.out hJz.out hJs.out hJb.out B v0 (rwK S i) rfl (hQ.out _ rfl) (by simp; omega) hlq ⟨w.heap.size, 0, none⟩ (y : Int) rfl (hnw.out _ rfl) ?_
    intro va wa hQ2 hg2 hat2
    obtain ⟨Av, cv, hva, -, -, -⟩ := hQ2.shape
    rw [hlv.out] at hva
    subst hva
    have hgr : (w.alloc (.cells #[.int .i64 (y : Int)] 3)).grownBy wa v0.ownBlock := ⟨hg2.os, hg2.tape, hg2.output, hg2.size, hg2.block⟩
    have e0 : wa.cell? ⟨b.H, i, none⟩ = some v0 := hgr.cell (a0 _) (fun e => hn1.out e.symm)
    have ef : wa.frozen? ⟨b.H, i, none⟩ = false := (hRa.out.rH.grown hgr (fun e => hn1.out e.symm)).frozen i
    have e1 : wa.cell? ⟨b.br, 0, none⟩ = some (.slice (some ⟨b.H, 0, none⟩) n n) := hgr.cell (a2 _) (fun e => hn2.out e.symm)
    have hk2 : ∀ v, (wa.setCell ⟨b.H, i, none⟩ v).cell? ⟨b.br, 0, none⟩ = some (.slice (some ⟨b.H, 0, none⟩) n n) := fun v => (World.cell?_setCell_other _ _ _ _ hm1.out).trans e1
    refine hK.out _ _ ?_ (fun hHeld => ?_)
    · exact e1
    clear hK K
    try simp only [Act.put, List.setIfInBounds_toArray, List.set_cons_zero, List.set_cons_succ]
    refine wpAnyH_take (i := 9) (v := ?_) rfl (by kernel_rfl) (by kernel_rfl) (by kernel_rfl) (fun _ _ _ h => h) (Or.inl ⟨by rfl, ?_⟩) (by assumption) ?_
    rotate_left
    · (intro w hSw; (try dsimp only at hSw); first | (go_simp; done) | (go_simp; with_reducible rfl))
    try simp only [Act.put, List.setIfInBounds_toArray, List.set_cons_zero, List.set_cons_succ]
    refine wpAnyH_ready (rs := [10]) (by kernel_rfl) (by simp) ?_
    refine AllReadyH.cons rfl (fun K hK => ?_) AllReadyH.nil
    go_simp
    refine hK.out _ _ ?_ (fun hHeld => ?_)
    · exact hk2 _
    clear hK K
    try simp only [Act.put, List.setIfInBounds_toArray, List.set_cons_zero, List.set_cons_succ]
    refine wpAnyH_done (by kernel_rfl) ?_ _
    have hR5 := Lib.hid (hRa.out.putQ (j := i) hi hQ2 (by rw [hv0.out]; exact hgr) (by rw [hv0.out]; rcases hat2 with h | h; exact .inr (.inl h); exact .inr (.inr ⟨_, h, Nat.le_refl _⟩)))
    have hB5 := Lib.hid ((hBa.out.grown hgr hszA.out (fun q hq => ((hQ.out _ rfl).lt hq).1) (fun g xs hr => (hQ.out _ rfl).ne_row hr (by decide))).setRow (p := ⟨b.H, i, none⟩) (hRa.out.rH.grown hgr (fun e => hn1.out e.symm)) (by decide) hlowH.out (.slice Av lv cv))
    clear hk2 e0 ef e1 hQ2 hg2 hat2 hgr
    have hR6 := Lib.hid (hR5.out.congr (fun _ _ => rfl) (fun _ _ => rfl) (fun _ _ => rfl) hadd.out)
    obtain ⟨y0, y1, y2, y3, y4, y5⟩ := hR6.out.vars
    have yh := hR6.out.hcell hi
    rw [up1_same] at yh
    have yp := hR6.out.rP.at_ hi
    generalize wa.setCell ⟨b.H, i, none⟩ (.slice Av lv cv) = w5 at *
    rw [show ptK S i = (S.ptr i : Int) from rfl] at yp
    have hRb := Lib.hid (hR6.out.alloc (.cells #[.int .i64 (i : Int), .int .i64 (S.ptr i : Int), .int .i64 0] 52))
    have hBb := Lib.hid (hB5.out.alloc hR6.out.sz (.cells #[.int .i64 (i : Int), .int .i64 (S.ptr i : Int), .int .i64 0] 52))
    have hsz5 : B ≤ w5.heap.size := hR6.out.sz
    have hol : Hid (∀ w' : World, w'.heap = (w5.alloc (.cells #[.int .i64 (i : Int), .int .i64 (S.ptr i : Int), .int .i64 0] 52)).heap → OwnL w' B vl L) := fun w' e => ownsG_blk hRb.out.ol (fun q _ => by rw [e])
    have hnl : Hid (∀ w' : World, w'.heap = (w5.alloc (.cells #[.int .i64 (i : Int), .int .i64 (S.ptr i : Int), .int .i64 0] 52)).heap → ∀ j u, (cellsL ⟨(i : Int), (S.ptr i : Int), 0⟩)[j]? = some u → w'.cell? ((⟨w5.heap.size, 0, none⟩ : Addr).add j) = some u) := fun w' e j u hj => by
      have h1 := newsL (w := w5) ⟨(i : Int), (S.ptr i : Int), 0⟩ rfl j u hj
      rw [← h1]
      simp only [World.cell?, e]
    have hln : Hid (L.length ≤ 10000) := Nat.le_trans hL (by omega)
    have c3 : ∀ o, (w5.alloc o).cell? ⟨b.bp, 0, none⟩ = some (.slice (some ⟨b.P, 0, none⟩) n b.cp) := fun o => ((hR6.out.alloc o).vars).2.2.2.1
    have cp : ∀ o, (w5.alloc o).cell? ⟨b.P, i, none⟩ = some (.int .i64 (S.ptr i : Int)) := fun o => (hR6.out.alloc o).rP.at_ hi
    have c4 : ∀ o, (w5.alloc o).cell? ⟨b.bw, 0, none⟩ = some vl := fun o => ((hR6.out.alloc o).vars).2.2.2.2.1
    have hm3 : Hid ((⟨b.bw, 0, none⟩ : Addr) ≠ ⟨b.bp, 0, none⟩) := fun e => rowG_ne hR6.out.rW hR6.out.rp (by decide) (by injection e)
    have hm4 : Hid ((⟨b.bw, 0, none⟩ : Addr) ≠ ⟨b.P, i, none⟩) := fun e => rowG_ne hR6.out.rW hR6.out.rP.row.choose_spec (by decide) (by injection e)
    clear hR5 hR6 hRa hBa hR hQ hnw x0 x1 x2 x3 x4 x5 h0 a0 a2 y0 y1 y5
    go_wp2_with fail
    refine wp_region_held_drew (S := fun w' => w'.cell? ⟨b.bp, 0, none⟩ = some (.slice (some ⟨b.P, 0, none⟩) n b.cp) ∧ w'.cell? ⟨b.P, i, none⟩ = some (.int .i64 (S.ptr i : Int))) (by kernel_rfl) ?_ (fun hHeld => ?_)
    · exact ⟨y3, yp⟩
    refine wpAnyH_take (i := 1) (v := ?_) rfl (by kernel_rfl) (by kernel_rfl) (by kernel_rfl) (fun _ _ _ h => h) (Or.inl ⟨by rfl, ?_⟩) (by assumption) ?_
    rotate_left
    · (intro w hSw; (try dsimp only at hSw); first | (go_simp; done) | (go_simp; with_reducible rfl))
    try simp only [Act.put, List.setIfInBounds_toArray, List.set_cons_zero, List.set_cons_succ]
    refine wpAnyH_take (i := 2) (v := ?_) rfl (by kernel_rfl) (by kernel_rfl) (by kernel_rfl) (fun _ _ _ h => h) (Or.inl ⟨by rfl, ?_⟩) (by assumption) ?_
    rotate_left
    · (intro w hSw; (try dsimp only at hSw); first | (go_simp; done) | (go_simp; with_reducible rfl))
    try simp only [Act.put, List.setIfInBounds_toArray, List.set_cons_zero, List.set_cons_succ]
    refine wpAnyH_take (i := 3) (v := ?_) rfl (by kernel_rfl) (by kernel_rfl) (by kernel_rfl) (fun _ _ _ h => h) (Or.inl ⟨by rfl, ?_⟩) (by assumption) ?_
    rotate_left
    · (intro w hSw; (try dsimp only at hSw); first | (go_simp; done) | (go_simp; with_reducible rfl))
    try simp only [Act.put, List.setIfInBounds_toArray, List.set_cons_zero, List.set_cons_succ]
    refine wpAnyH_take (i := 4) (v := ?_) rfl (by kernel_rfl) (by kernel_rfl) (by kernel_rfl) (fun _ _ _ h => h) (Or.inl ⟨by rfl, ?_⟩) (by assumption) ?_
    rotate_left
    · (intro w hSw; (try dsimp only at hSw); first | (go_simp; done) | (go_simp; with_reducible rfl))
    try simp only [Act.put, List.setIfInBounds_toArray, List.set_cons_zero, List.set_cons_succ]
    refine wpAnyH_take (i := 5) (v := ?_) rfl (by kernel_rfl) (by kernel_rfl) (by kernel_rfl) (fun _ _ _ h => h) (Or.inl ⟨by rfl, ?_⟩) (by assumption) ?_
    rotate_left
    · (intro w hSw; (try dsimp only at hSw); first | (go_simp; done) | (go_simp; with_reducible rfl))
    try simp only [Act.put, List.setIfInBounds_toArray, List.set_cons_zero, List.set_cons_succ]
    refine wpAnyH_take (i := 6) (v := ?_) rfl (by kernel_rfl) (by kernel_rfl) (by kernel_rfl) (fun _ _ _ h => h) (Or.inl ⟨by rfl, ?_⟩) (by assumption) ?_
    rotate_left
    · (intro w hSw; (try dsimp only at hSw); first | (go_simp; done) | (go_simp; with_reducible rfl))
    try simp only [Act.put, List.setIfInBounds_toArray, List.set_cons_zero, List.set_cons_succ]
    refine wpAnyH_ready (rs := [0, 7]) (by kernel_rfl) (by simp) ?_
    refine AllReadyH.cons rfl (fun K hK => ?_) (AllReadyH.cons rfl (fun K hK => ?_) AllReadyH.nil)
    · go_simp
      refine hK.out _ _ ?_ (fun hHeld => ?_)
      · exact hHeld
      clear hK K
      try simp only [Act.put, List.setIfInBounds_toArray, List.set_cons_zero, List.set_cons_succ]
      refine wpAnyH_ready (rs := [7]) (by kernel_rfl) (by simp) ?_
      refine AllReadyH.cons rfl (fun K hK => ?_) AllReadyH.nil
      go_simp
      refine hK.out _ _ ?_ (fun hHeld => ?_)
      · exact ⟨c3 _, cp _⟩
      clear hK K
      try simp only [Act.put, List.setIfInBounds_toArray, List.set_cons_zero, List.set_cons_succ]
      refine wpAnyH_ready (rs := [8]) (by kernel_rfl) (by simp) ?_
      refine AllReadyH.cons rfl (fun K hK => ?_) AllReadyH.nil
      refine step_append_let rfl (.tmp 32) (.tmp 39) rfl jl hLi.out hLz.out hLs.out hLb.out B vl L ⟨(i : Int), (S.ptr i : Int), 0⟩ rfl (hol.out _ rfl) ⟨w5.heap.size, 0, none⟩ rfl (hnl.out _ rfl) hln.out (by simp; omega) ?_
      intro vb wb hO2 hg2
      obtain ⟨Ab, cb, hvb, -, -, -⟩ := hO2.shape
      obtain ⟨lb, hlb⟩ : ∃ lb, Hid ((L ++ [(⟨(i : Int), (S.ptr i : Int), 0⟩ : Lt)]).length = lb) := ⟨_, rfl⟩
      rw [hlb.out] at hvb
      subst hvb
      have hgr : (w5.alloc (.cells #[.int .i64 (i : Int), .int .i64 (S.ptr i : Int), .int .i64 0] 52)).grownBy wb vl.ownBlock := ⟨hg2.os, hg2.tape, hg2.output, hg2.size, hg2.block⟩
      have z4 := (hRb.out.rW.grown hgr (fun e => owns_ne_row hRb.out.ol hRb.out.rW (by decide) e.symm)).cell (i := 0) (by simp)
      have zf := (hRb.out.rW.grown hgr (fun e => owns_ne_row hRb.out.ol hRb.out.rW (by decide) e.symm)).frozen 0
      simp only [List.getElem_cons_zero] at z4
      have z3 : wb.cell? ⟨b.bp, 0, none⟩ = some (.slice (some ⟨b.P, 0, none⟩) n b.cp) := hgr.cell (c3 _) (fun e => owns_ne_row hRb.out.ol hRb.out.rp (by decide) e.symm)
      have zp : wb.cell? ⟨b.P, i, none⟩ = some (.int .i64 (S.ptr i : Int)) := hgr.cell (cp _) (fun e => owns_ne_row hRb.out.ol hRb.out.rP.row.choose_spec (by decide) e.symm)
      have hk3 : ∀ v, (wb.setCell ⟨b.bw, 0, none⟩ v).cell? ⟨b.bp, 0, none⟩ = some (.slice (some ⟨b.P, 0, none⟩) n b.cp) ∧ (wb.setCell ⟨b.bw, 0, none⟩ v).cell? ⟨b.P, i, none⟩ = some (.int .i64 (S.ptr i : Int)) := fun v => ⟨(World.cell?_setCell_other _ _ _ _ hm3.out).trans z3, (World.cell?_setCell_other _ _ _ _ hm4.out).trans zp⟩
      refine hK.out _ _ ?_ (fun hHeld => ?_)
      · exact ⟨z3, zp⟩
      clear hK K
      try simp only [Act.put, List.setIfInBounds_toArray, List.set_cons_zero, List.set_cons_succ]
      refine wpAnyH_ready (rs := [9]) (by kernel_rfl) (by simp) ?_
      refine AllReadyH.cons rfl (fun K hK => ?_) AllReadyH.nil
      go_simp
      refine hK.out _ _ ?_ (fun hHeld => ?_)
      · exact hk3 _
      clear hK K
      try simp only [Act.put, List.setIfInBounds_toArray, List.set_cons_zero, List.set_cons_succ]
      refine wpAnyH_done (by kernel_rfl) ?_ _
      have hR8 := Lib.hid (hRb.out.letters hO2 hgr)
      have hB8 := Lib.hid ((hBb.out.grown hgr hRb.out.sz (fun q hq => (World.ownsRow.lt hRb.out.ol q hq).1) (fun g xs hr => owns_ne_row hRb.out.ol hr (by decide))).setRow (p := ⟨b.bw, 0, none⟩) (hRb.out.rW.grown hgr (fun e => owns_ne_row hRb.out.ol hRb.out.rW (by decide) e.symm)) (by decide) hRb.out.lo.2.2.2.2.2.2.2.2.2.2.1 (.slice Ab lb cb))
      obtain ⟨u0, u1, u2, u3, u4, u5⟩ := hR8.out.vars
      have hS8 : RkS (wb.setCell ⟨b.bw, 0, none⟩ (.slice Ab lb cb)) B n b ((S.add i y).put i (S.ptr i) 0) (N + 1) cs := ⟨_, _, _, _, hR8.out, hRL1.out, by rw [hlb.out]; have := hlb.out; simp at this; omega⟩
      have hgive := Lib.hid (give_any _ B n b ((S.add i y).put i (S.ptr i) 0) (N + 1) cs hS8 hOp.out (by omega) i hi hn)
      generalize wb.setCell ⟨b.bw, 0, none⟩ (.slice Ab lb cb) = w8 at *
      clear hk3 z3 z4 zp zf hO2 hg2 hgr hS8 hR8 hRb hBb u0 u1 u2 u3 u4 hol hnl c3 cp
      unfold giveF at u5
      go_wp2_with fail
      refine hgive.out.mono ?_
      rintro e w9 ⟨rfl, hR9, hB9⟩
      have hR9H := Lib.hid hR9
      clear hR9
      go_wp2_with fail
      go_end0
      exact ⟨rfl, by rw [hS.out]; exact hR9H.out, hB8.out.trans hB9⟩
    · go_simp
      refine hK.out _ _ ?_ (fun hHeld => ?_)
      · exact ⟨c3 _, cp _⟩
      clear hK K
      try simp only [Act.put, List.setIfInBounds_toArray, List.set_cons_zero, List.set_cons_succ]
      refine wpAnyH_ready (rs := [0]) (by kernel_rfl) (by simp) ?_
      refine AllReadyH.cons rfl (fun K hK => ?_) AllReadyH.nil
      go_simp
      refine hK.out _ _ ?_ (fun hHeld => ?_)
      · exact ⟨c3 _, cp _⟩
      clear hK K
      try simp only [Act.put, List.setIfInBounds_toArray, List.set_cons_zero, List.set_cons_succ]
      refine wpAnyH_ready (rs := [8]) (by kernel_rfl) (by simp) ?_
      refine AllReadyH.cons rfl (fun K hK => ?_) AllReadyH.nil
      refine step_append_let rfl (.tmp 32) (.tmp 39) rfl jl hLi.out hLz.out hLs.out hLb.out B vl L ⟨(i : Int), (S.ptr i : Int), 0⟩ rfl (hol.out _ rfl) ⟨w5.heap.size, 0, none⟩ rfl (hnl.out _ rfl) hln.out (by simp; omega) ?_
      intro vb wb hO2 hg2
      obtain ⟨Ab, cb, hvb, -, -, -⟩ := hO2.shape
      obtain ⟨lb, hlb⟩ : ∃ lb, Hid ((L ++ [(⟨(i : Int), (S.ptr i : Int), 0⟩ : Lt)]).length = lb) := ⟨_, rfl⟩
      rw [hlb.out] at hvb
      subst hvb
      have hgr : (w5.alloc (.cells #[.int .i64 (i : Int), .int .i64 (S.ptr i : Int), .int .i64 0] 52)).grownBy wb vl.ownBlock := ⟨hg2.os, hg2.tape, hg2.output, hg2.size, hg2.block⟩
      have z4 := (hRb.out.rW.grown hgr (fun e => owns_ne_row hRb.out.ol hRb.out.rW (by decide) e.symm)).cell (i := 0) (by simp)
      have zf := (hRb.out.rW.grown hgr (fun e => owns_ne_row hRb.out.ol hRb.out.rW (by decide) e.symm)).frozen 0
      simp only [List.getElem_cons_zero] at z4
      have z3 : wb.cell? ⟨b.bp, 0, none⟩ = some (.slice (some ⟨b.P, 0, none⟩) n b.cp) := hgr.cell (c3 _) (fun e => owns_ne_row hRb.out.ol hRb.out.rp (by decide) e.symm)
      have zp : wb.cell? ⟨b.P, i, none⟩ = some (.int .i64 (S.ptr i : Int)) := hgr.cell (cp _) (fun e => owns_ne_row hRb.out.ol hRb.out.rP.row.choose_spec (by decide) e.symm)
      have hk3 : ∀ v, (wb.setCell ⟨b.bw, 0, none⟩ v).cell? ⟨b.bp, 0, none⟩ = some (.slice (some ⟨b.P, 0, none⟩) n b.cp) ∧ (wb.setCell ⟨b.bw, 0, none⟩ v).cell? ⟨b.P, i, none⟩ = some (.int .i64 (S.ptr i : Int)) := fun v => ⟨(World.cell?_setCell_other _ _ _ _ hm3.out).trans z3, (World.cell?_setCell_other _ _ _ _ hm4.out).trans zp⟩
      refine hK.out _ _ ?_ (fun hHeld => ?_)
      · exact ⟨z3, zp⟩
      clear hK K
      try simp only [Act.put, List.setIfInBounds_toArray, List.set_cons_zero, List.set_cons_succ]
      refine wpAnyH_ready (rs := [9]) (by kernel_rfl) (by simp) ?_
      refine AllReadyH.cons rfl (fun K hK => ?_) AllReadyH.nil
      go_simp
      refine hK.out _ _ ?_ (fun hHeld => ?_)
      · exact hk3 _
      clear hK K
      try simp only [Act.put, List.setIfInBounds_toArray, List.set_cons_zero, List.set_cons_succ]
      refine wpAnyH_done (by kernel_rfl) ?_ _
      have hR8 := Lib.hid (hRb.out.letters hO2 hgr)
      have hB8 := Lib.hid ((hBb.out.grown hgr hRb.out.sz (fun q hq => (World.ownsRow.lt hRb.out.ol q hq).1) (fun g xs hr => owns_ne_row hRb.out.ol hr (by decide))).setRow (p := ⟨b.bw, 0, none⟩) (hRb.out.rW.grown hgr (fun e => owns_ne_row hRb.out.ol hRb.out.rW (by decide) e.symm)) (by decide) hRb.out.lo.2.2.2.2.2.2.2.2.2.2.1 (.slice Ab lb cb))
      obtain ⟨u0, u1, u2, u3, u4, u5⟩ := hR8.out.vars
      have hS8 : RkS (wb.setCell ⟨b.bw, 0, none⟩ (.slice Ab lb cb)) B n b ((S.add i y).put i (S.ptr i) 0) (N + 1) cs := ⟨_, _, _, _, hR8.out, hRL1.out, by rw [hlb.out]; have := hlb.out; simp at this; omega⟩
      have hgive := Lib.hid (give_any _ B n b ((S.add i y).put i (S.ptr i) 0) (N + 1) cs hS8 hOp.out (by omega) i hi hn)
      generalize wb.setCell ⟨b.bw, 0, none⟩ (.slice Ab lb cb) = w8 at *
      clear hk3 z3 z4 zp zf hO2 hg2 hgr hS8 hR8 hRb hBb u0 u1 u2 u3 u4 hol hnl c3 cp
      unfold giveF at u5
      go_wp2_with fail
      refine hgive.out.mono ?_
      rintro e w9 ⟨rfl, hR9, hB9⟩
      have hR9H := Lib.hid hR9
      clear hR9
      go_wp2_with fail
      go_end0
      exact ⟨rfl, by rw [hS.out]; exact hR9H.out, hB8.out.trans hB9⟩
  · go_simp
    refine hK.out _ _ ?_ (fun hHeld => ?_)
    · exact a2 _
    clear hK K
    try simp only [Act.put, List.setIfInBounds_toArray, List.set_cons_zero, List.set_cons_succ]
    refine wpAnyH_ready (rs := [5]) (by kernel_rfl) (by simp) ?_
    refine AllReadyH.cons rfl (fun K hK => ?_) AllReadyH.nil
    go_simp
    refine hK.out _ _ ?_ (fun hHeld => ?_)
    · exact a2 _
    clear hK K
    try simp only [Act.put, List.setIfInBounds_toArray, List.set_cons_zero, List.set_cons_succ]
    refine wpAnyH_ready (rs := [8]) (by kernel_rfl) (by simp) ?_
    refine AllReadyH.cons rfl (fun K hK => ?_) AllReadyH.nil
    refine step_append_queI rfl (.tmp 13) (.tmp 15) rfl ji hJi.out hJz.out hJs.out hJb.out B v0 (rwK S i) rfl (hQ.out _ rfl) (by simp; omega) hlq ⟨w.heap.size, 0, none⟩ (y : Int) rfl (hnw.out _ rfl) ?_
    intro va wa hQ2 hg2 hat2
    obtain ⟨Av, cv, hva, -, -, -⟩ := hQ2.shape
    rw [hlv.out] at hva
    subst hva
    have hgr : (w.alloc (.cells #[.int .i64 (y : Int)] 3)).grownBy wa v0.ownBlock := ⟨hg2.os, hg2.tape, hg2.output, hg2.size, hg2.block⟩
    have e0 : wa.cell? ⟨b.H, i, none⟩ = some v0 := hgr.cell (a0 _) (fun e => hn1.out e.symm)
    have ef : wa.frozen? ⟨b.H, i, none⟩ = false := (hRa.out.rH.grown hgr (fun e => hn1.out e.symm)).frozen i
    have e1 : wa.cell? ⟨b.br, 0, none⟩ = some (.slice (some ⟨b.H, 0, none⟩) n n) := hgr.cell (a2 _) (fun e => hn2.out e.symm)
    have hk2 : ∀ v, (wa.setCell ⟨b.H, i, none⟩ v).cell? ⟨b.br, 0, none⟩ = some (.slice (some ⟨b.H, 0, none⟩) n n) := fun v => (World.cell?_setCell_other _ _ _ _ hm1.out).trans e1
    refine hK.out _ _ ?_ (fun hHeld => ?_)
    · exact e1
    clear hK K
    try simp only [Act.put, List.setIfInBounds_toArray, List.set_cons_zero, List.set_cons_succ]
    refine wpAnyH_take (i := 9) (v := ?_) rfl (by kernel_rfl) (by kernel_rfl) (by kernel_rfl) (fun _ _ _ h => h) (Or.inl ⟨by rfl, ?_⟩) (by assumption) ?_
    rotate_left
    · (intro w hSw; (try dsimp only at hSw); first | (go_simp; done) | (go_simp; with_reducible rfl))
    try simp only [Act.put, List.setIfInBounds_toArray, List.set_cons_zero, List.set_cons_succ]
    refine wpAnyH_ready (rs := [10]) (by kernel_rfl) (by simp) ?_
    refine AllReadyH.cons rfl (fun K hK => ?_) AllReadyH.nil
    go_simp
    refine hK.out _ _ ?_ (fun hHeld => ?_)
    · exact hk2 _
    clear hK K
    try simp only [Act.put, List.setIfInBounds_toArray, List.set_cons_zero, List.set_cons_succ]
    refine wpAnyH_done (by kernel_rfl) ?_ _
    have hR5 := Lib.hid (hRa.out.putQ (j := i) hi hQ2 (by rw [hv0.out]; exact hgr) (by rw [hv0.out]; rcases hat2 with h | h; exact .inr (.inl h); exact .inr (.inr ⟨_, h, Nat.le_refl _⟩)))
    have hB5 := Lib.hid ((hBa.out.grown hgr hszA.out (fun q hq => ((hQ.out _ rfl).lt hq).1) (fun g xs hr => (hQ.out _ rfl).ne_row hr (by decide))).setRow (p := ⟨b.H, i, none⟩) (hRa.out.rH.grown hgr (fun e => hn1.out e.symm)) (by decide) hlowH.out (.slice Av lv cv))
    clear hk2 e0 ef e1 hQ2 hg2 hat2 hgr
    have hR6 := Lib.hid (hR5.out.congr (fun _ _ => rfl) (fun _ _ => rfl) (fun _ _ => rfl) hadd.out)
    obtain ⟨y0, y1, y2, y3, y4, y5⟩ := hR6.out.vars
    have yh := hR6.out.hcell hi
    rw [up1_same] at yh
    have yp := hR6.out.rP.at_ hi
    generalize wa.setCell ⟨b.H, i, none⟩ (.slice Av lv cv) = w5 at *
    rw [show ptK S i = (S.ptr i : Int) from rfl] at yp
    have hRb := Lib.hid (hR6.out.alloc (.cells #[.int .i64 (i : Int), .int .i64 (S.ptr i : Int), .int .i64 0] 52))
    have hBb := Lib.hid (hB5.out.alloc hR6.out.sz (.cells #[.int .i64 (i : Int), .int .i64 (S.ptr i : Int), .int .i64 0] 52))
    have hsz5 : B ≤ w5.heap.size := hR6.out.sz
    have hol : Hid (∀ w' : World, w'.heap = (w5.alloc (.cells #[.int .i64 (i : Int), .int .i64 (S.ptr i : Int), .int .i64 0] 52)).heap → OwnL w' B vl L) := fun w' e => ownsG_blk hRb.out.ol (fun q _ => by rw [e])
    have hnl : Hid (∀ w' : World, w'.heap = (w5.alloc (.cells #[.int .i64 (i : Int), .int .i64 (S.ptr i : Int), .int .i64 0] 52)).heap → ∀ j u, (cellsL ⟨(i : Int), (S.ptr i : Int), 0⟩)[j]? = some u → w'.cell? ((⟨w5.heap.size, 0, none⟩ : Addr).add j) = some u) := fun w' e j u hj => by
      have h1 := newsL (w := w5) ⟨(i : Int), (S.ptr i : Int), 0⟩ rfl j u hj
      rw [← h1]
      simp only [World.cell?, e]
    have hln : Hid (L.length ≤ 10000) := Nat.le_trans hL (by omega)
    have c3 : ∀ o, (w5.alloc o).cell? ⟨b.bp, 0, none⟩ = some (.slice (some ⟨b.P, 0, none⟩) n b.cp) := fun o => ((hR6.out.alloc o).vars).2.2.2.1
    have cp : ∀ o, (w5.alloc o).cell? ⟨b.P, i, none⟩ = some (.int .i64 (S.ptr i : Int)) := fun o => (hR6.out.alloc o).rP.at_ hi
    have c4 : ∀ o, (w5.alloc o).cell? ⟨b.bw, 0, none⟩ = some vl := fun o => ((hR6.out.alloc o).vars).2.2.2.2.1
    have hm3 : Hid ((⟨b.bw, 0, none⟩ : Addr) ≠ ⟨b.bp, 0, none⟩) := fun e => rowG_ne hR6.out.rW hR6.out.rp (by decide) (by injection e)
    have hm4 : Hid ((⟨b.bw, 0, none⟩ : Addr) ≠ ⟨b.P, i, none⟩) := fun e => rowG_ne hR6.out.rW hR6.out.rP.row.choose_spec (by decide) (by injection e)
    clear hR5 hR6 hRa hBa hR hQ hnw x0 x1 x2 x3 x4 x5 h0 a0 a2 y0 y1 y5
    go_wp2_with fail
    refine wp_region_held_drew (S := fun w' => w'.cell? ⟨b.bp, 0, none⟩ = some (.slice (some ⟨b.P, 0, none⟩) n b.cp) ∧ w'.cell? ⟨b.P, i, none⟩ = some (.int .i64 (S.ptr i : Int))) (by kernel_rfl) ?_ (fun hHeld => ?_)
    · exact ⟨y3, yp⟩
    refine wpAnyH_take (i := 1) (v := ?_) rfl (by kernel_rfl) (by kernel_rfl) (by kernel_rfl) (fun _ _ _ h => h) (Or.inl ⟨by rfl, ?_⟩) (by assumption) ?_
    rotate_left
    · (intro w hSw; (try dsimp only at hSw); first | (go_simp; done) | (go_simp; with_reducible rfl))
    try simp only [Act.put, List.setIfInBounds_toArray, List.set_cons_zero, List.set_cons_succ]
    refine wpAnyH_take (i := 2) (v := ?_) rfl (by kernel_rfl) (by kernel_rfl) (by kernel_rfl) (fun _ _ _ h => h) (Or.inl ⟨by rfl, ?_⟩) (by assumption) ?_
    rotate_left
    · (intro w hSw; (try dsimp only at hSw); first | (go_simp; done) | (go_simp; with_reducible rfl))
    try simp only [Act.put, List.setIfInBounds_toArray, List.set_cons_zero, List.set_cons_succ]
    refine wpAnyH_take (i := 3) (v := ?_) rfl (by kernel_rfl) (by kernel_rfl) (by kernel_rfl) (fun _ _ _ h => h) (Or.inl ⟨by rfl, ?_⟩) (by assumption) ?_
    rotate_left
    · (intro w hSw; (try dsimp only at hSw); first | (go_simp; done) | (go_simp; with_reducible rfl))
    try simp only [Act.put, List.setIfInBounds_toArray, List.set_cons_zero, List.set_cons_succ]
    refine wpAnyH_take (i := 4) (v := ?_) rfl (by kernel_rfl) (by kernel_rfl) (by kernel_rfl) (fun _ _ _ h => h) (Or.inl ⟨by rfl, ?_⟩) (by assumption) ?_
    rotate_left
    · (intro w hSw; (try dsimp only at hSw); first | (go_simp; done) | (go_simp; with_reducible rfl))
    try simp only [Act.put, List.setIfInBounds_toArray, List.set_cons_zero, List.set_cons_succ]
    refine wpAnyH_take (i := 5) (v := ?_) rfl (by kernel_rfl) (by kernel_rfl) (by kernel_rfl) (fun _ _ _ h => h) (Or.inl ⟨by rfl, ?_⟩) (by assumption) ?_
    rotate_left
    · (intro w hSw; (try dsimp only at hSw); first | (go_simp; done) | (go_simp; with_reducible rfl))
    try simp only [Act.put, List.setIfInBounds_toArray, List.set_cons_zero, List.set_cons_succ]
    refine wpAnyH_take (i := 6) (v := ?_) rfl (by kernel_rfl) (by kernel_rfl) (by kernel_rfl) (fun _ _ _ h => h) (Or.inl ⟨by rfl, ?_⟩) (by assumption) ?_
    rotate_left
    · (intro w hSw; (try dsimp only at hSw); first | (go_simp; done) | (go_simp; with_reducible rfl))
    try simp only [Act.put, List.setIfInBounds_toArray, List.set_cons_zero, List.set_cons_succ]
    refine wpAnyH_ready (rs := [0, 7]) (by kernel_rfl) (by simp) ?_
    refine AllReadyH.cons rfl (fun K hK => ?_) (AllReadyH.cons rfl (fun K hK => ?_) AllReadyH.nil)
    · go_simp
      refine hK.out _ _ ?_ (fun hHeld => ?_)
      · exact hHeld
      clear hK K
      try simp only [Act.put, List.setIfInBounds_toArray, List.set_cons_zero, List.set_cons_succ]
      refine wpAnyH_ready (rs := [7]) (by kernel_rfl) (by simp) ?_
      refine AllReadyH.cons rfl (fun K hK => ?_) AllReadyH.nil
      go_simp
      refine hK.out _ _ ?_ (fun hHeld => ?_)
      · exact ⟨c3 _, cp _⟩
      clear hK K
      try simp only [Act.put, List.setIfInBounds_toArray, List.set_cons_zero, List.set_cons_succ]
      refine wpAnyH_ready (rs := [8]) (by kernel_rfl) (by simp) ?_
      refine AllReadyH.cons rfl (fun K hK => ?_) AllReadyH.nil
      refine step_append_let rfl (.tmp 32) (.tmp 39) rfl jl hLi.out hLz.out hLs.out hLb.out B vl L ⟨(i : Int), (S.ptr i : Int), 0⟩ rfl (hol.out _ rfl) ⟨w5.heap.size, 0, none⟩ rfl (hnl.out _ rfl) hln.out (by simp; omega) ?_
      intro vb wb hO2 hg2
      obtain ⟨Ab, cb, hvb, -, -, -⟩ := hO2.shape
      obtain ⟨lb, hlb⟩ : ∃ lb, Hid ((L ++ [(⟨(i : Int), (S.ptr i : Int), 0⟩ : Lt)]).length = lb) := ⟨_, rfl⟩
      rw [hlb.out] at hvb
      subst hvb
      have hgr : (w5.alloc (.cells #[.int .i64 (i : Int), .int .i64 (S.ptr i : Int), .int .i64 0] 52)).grownBy wb vl.ownBlock := ⟨hg2.os, hg2.tape, hg2.output, hg2.size, hg2.block⟩
      have z4 := (hRb.out.rW.grown hgr (fun e => owns_ne_row hRb.out.ol hRb.out.rW (by decide) e.symm)).cell (i := 0) (by simp)
      have zf := (hRb.out.rW.grown hgr (fun e => owns_ne_row hRb.out.ol hRb.out.rW (by decide) e.symm)).frozen 0
      simp only [List.getElem_cons_zero] at z4
      have z3 : wb.cell? ⟨b.bp, 0, none⟩ = some (.slice (some ⟨b.P, 0, none⟩) n b.cp) := hgr.cell (c3 _) (fun e => owns_ne_row hRb.out.ol hRb.out.rp (by decide) e.symm)
      have zp : wb.cell? ⟨b.P, i, none⟩ = some (.int .i64 (S.ptr i : Int)) := hgr.cell (cp _) (fun e => owns_ne_row hRb.out.ol hRb.out.rP.row.choose_spec (by decide) e.symm)
      have hk3 : ∀ v, (wb.setCell ⟨b.bw, 0, none⟩ v).cell? ⟨b.bp, 0, none⟩ = some (.slice (some ⟨b.P, 0, none⟩) n b.cp) ∧ (wb.setCell ⟨b.bw, 0, none⟩ v).cell? ⟨b.P, i, none⟩ = some (.int .i64 (S.ptr i : Int)) := fun v => ⟨(World.cell?_setCell_other _ _ _ _ hm3.out).trans z3, (World.cell?_setCell_other _ _ _ _ hm4.out).trans zp⟩
      refine hK.out _ _ ?_ (fun hHeld => ?_)
      · exact ⟨z3, zp⟩
      clear hK K
      try simp only [Act.put, List.setIfInBounds_toArray, List.set_cons_zero, List.set_cons_succ]
      refine wpAnyH_ready (rs := [9]) (by kernel_rfl) (by simp) ?_
      refine AllReadyH.cons rfl (fun K hK => ?_) AllReadyH.nil
      go_simp
      refine hK.out _ _ ?_ (fun hHeld => ?_)
      · exact hk3 _
      clear hK K
      try simp only [Act.put, List.setIfInBounds_toArray, List.set_cons_zero, List.set_cons_succ]
      refine wpAnyH_done (by kernel_rfl) ?_ _
      have hR8 := Lib.hid (hRb.out.letters hO2 hgr)
      have hB8 := Lib.hid ((hBb.out.grown hgr hRb.out.sz (fun q hq => (World.ownsRow.lt hRb.out.ol q hq).1) (fun g xs hr => owns_ne_row hRb.out.ol hr (by decide))).setRow (p := ⟨b.bw, 0, none⟩) (hRb.out.rW.grown hgr (fun e => owns_ne_row hRb.out.ol hRb.out.rW (by decide) e.symm)) (by decide) hRb.out.lo.2.2.2.2.2.2.2.2.2.2.1 (.slice Ab lb cb))
      obtain ⟨u0, u1, u2, u3, u4, u5⟩ := hR8.out.vars
      have hS8 : RkS (wb.setCell ⟨b.bw, 0, none⟩ (.slice Ab lb cb)) B n b ((S.add i y).put i (S.ptr i) 0) (N + 1) cs := ⟨_, _, _, _, hR8.out, hRL1.out, by rw [hlb.out]; have := hlb.out; simp at this; omega⟩
      have hgive := Lib.hid (give_any _ B n b ((S.add i y).put i (S.ptr i) 0) (N + 1) cs hS8 hOp.out (by omega) i hi hn)
      generalize wb.setCell ⟨b.bw, 0, none⟩ (.slice Ab lb cb) = w8 at *
      clear hk3 z3 z4 zp zf hO2 hg2 hgr hS8 hR8 hRb hBb u0 u1 u2 u3 u4 hol hnl c3 cp
      unfold giveF at u5
      go_wp2_with fail
      refine hgive.out.mono ?_
      rintro e w9 ⟨rfl, hR9, hB9⟩
      have hR9H := Lib.hid hR9
      clear hR9
      go_wp2_with fail
      go_end0
      exact ⟨rfl, by rw [hS.out]; exact hR9H.out, hB8.out.trans hB9⟩
    · go_simp
      refine hK.out _ _ ?_ (fun hHeld => ?_)
      · exact ⟨c3 _, cp _⟩
      clear hK K
      try simp only [Act.put, List.setIfInBounds_toArray, List.set_cons_zero, List.set_cons_succ]
      refine wpAnyH_ready (rs := [0]) (by kernel_rfl) (by simp) ?_
      refine AllReadyH.cons rfl (fun K hK => ?_) AllReadyH.nil
      go_simp
      refine hK.out _ _ ?_ (fun hHeld => ?_)
      · exact ⟨c3 _, cp _⟩
      clear hK K
      try simp only [Act.put, List.setIfInBounds_toArray, List.set_cons_zero, List.set_cons_succ]
      refine wpAnyH_ready (rs := [8]) (by kernel_rfl) (by simp) ?_
      refine AllReadyH.cons rfl (fun K hK => ?_) AllReadyH.nil
      refine step_append_let rfl (.tmp 32) (.tmp 39) rfl jl hLi.out hLz.out hLs.out hLb.out B vl L ⟨(i : Int), (S.ptr i : Int), 0⟩ rfl (hol.out _ rfl) ⟨w5.heap.size, 0, none⟩ rfl (hnl.out _ rfl) hln.out (by simp; omega) ?_
      intro vb wb hO2 hg2
      obtain ⟨Ab, cb, hvb, -, -, -⟩ := hO2.shape
      obtain ⟨lb, hlb⟩ : ∃ lb, Hid ((L ++ [(⟨(i : Int), (S.ptr i : Int), 0⟩ : Lt)]).length = lb) := ⟨_, rfl⟩
      rw [hlb.out] at hvb
      subst hvb
      have hgr : (w5.alloc (.cells #[.int .i64 (i : Int), .int .i64 (S.ptr i : Int), .int .i64 0] 52)).grownBy wb vl.ownBlock := ⟨hg2.os, hg2.tape, hg2.output, hg2.size, hg2.block⟩
      have z4 := (hRb.out.rW.grown hgr (fun e => owns_ne_row hRb.out.ol hRb.out.rW (by decide) e.symm)).cell (i := 0) (by simp)
      have zf := (hRb.out.rW.grown hgr (fun e => owns_ne_row hRb.out.ol hRb.out.rW (by decide) e.symm)).frozen 0
      simp only [List.getElem_cons_zero] at z4
      have z3 : wb.cell? ⟨b.bp, 0, none⟩ = some (.slice (some ⟨b.P, 0, none⟩) n b.cp) := hgr.cell (c3 _) (fun e => owns_ne_row hRb.out.ol hRb.out.rp (by decide) e.symm)
      have zp : wb.cell? ⟨b.P, i, none⟩ = some (.int .i64 (S.ptr i : Int)) := hgr.cell (cp _) (fun e => owns_ne_row hRb.out.ol hRb.out.rP.row.choose_spec (by decide) e.symm)
      have hk3 : ∀ v, (wb.setCell ⟨b.bw, 0, none⟩ v).cell? ⟨b.bp, 0, none⟩ = some (.slice (some ⟨b.P, 0, none⟩) n b.cp) ∧ (wb.setCell ⟨b.bw, 0, none⟩ v).cell? ⟨b.P, i, none⟩ = some (.int .i64 (S.ptr i : Int)) := fun v => ⟨(World.cell?_setCell_other _ _ _ _ hm3.out).trans z3, (World.cell?_setCell_other _ _ _ _ hm4.out).trans zp⟩
      refine hK.out _ _ ?_ (fun hHeld => ?_)
      · exact ⟨z3, zp⟩
      clear hK K
      try simp only [Act.put, List.setIfInBounds_toArray, List.set_cons_zero, List.set_cons_succ]
      refine wpAnyH_ready (rs := [9]) (by kernel_rfl) (by simp) ?_
      refine AllReadyH.cons rfl (fun K hK => ?_) AllReadyH.nil
      go_simp
      refine hK.out _ _ ?_ (fun hHeld => ?_)
      · exact hk3 _
      clear hK K
      try simp only [Act.put, List.setIfInBounds_toArray, List.set_cons_zero, List.set_cons_succ]
      refine wpAnyH_done (by kernel_rfl) ?_ _
      have hR8 := Lib.hid (hRb.out.letters hO2 hgr)
      have hB8 := Lib.hid ((hBb.out.grown hgr hRb.out.sz (fun q hq => (World.ownsRow.lt hRb.out.ol q hq).1) (fun g xs hr => owns_ne_row hRb.out.ol hr (by decide))).setRow (p := ⟨b.bw, 0, none⟩) (hRb.out.rW.grown hgr (fun e => owns_ne_row hRb.out.ol hRb.out.rW (by decide) e.symm)) (by decide) hRb.out.lo.2.2.2.2.2.2.2.2.2.2.1 (.slice Ab lb cb))
      obtain ⟨u0, u1, u2, u3, u4, u5⟩ := hR8.out.vars
      have hS8 : RkS (wb.setCell ⟨b.bw, 0, none⟩ (.slice Ab lb cb)) B n b ((S.add i y).put i (S.ptr i) 0) (N + 1) cs := ⟨_, _, _, _, hR8.out, hRL1.out, by rw [hlb.out]; have := hlb.out; simp at this; omega⟩
      have hgive := Lib.hid (give_any _ B n b ((S.add i y).put i (S.ptr i) 0) (N + 1) cs hS8 hOp.out (by omega) i hi hn)
      generalize wb.setCell ⟨b.bw, 0, none⟩ (.slice Ab lb cb) = w8 at *
      clear hk3 z3 z4 zp zf hO2 hg2 hgr hS8 hR8 hRb hBb u0 u1 u2 u3 u4 hol hnl c3 cp
      unfold giveF at u5
      go_wp2_with fail
      refine hgive.out.mono ?_
      rintro e w9 ⟨rfl, hR9, hB9⟩
      have hR9H := Lib.hid hR9
      clear hR9
      go_wp2_with fail
      go_end0
      exact ⟨rfl, by rw [hS.out]; exact hR9H.out, hB8.out.trans hB9⟩

theorem stand_any (w : World) (B n : Nat) (b : KB) (S : KS) (N : Nat) (cs : List Int) (h : RkS w B n b S N cs) (hO : OkK n S 800) (hN5 : N ≤ 4000) (i y : Nat) (hi : i < n) (hy : y < n) (hn : n ≤ 6) :
    Calls Try.prog 23 #[.int .i64 (i : Int), .int .i64 (y : Int), .pointer (some ⟨b.br, 0, none⟩), .pointer (some ⟨b.bp, 0, none⟩), .pointer (some ⟨b.bw, 0, none⟩), .pointer (some ⟨b.bg, 0, none⟩)] w (GvK B n b (N + 3) cs w (S.enq i y)) := by
  by_cases hr : S.row i = []
  · by_cases hp : S.ptr i = i
    · exact stand_same w B n b S N cs h hO hN5 i y hi hy hn hr hp
    · exact stand_ask w B n b S N cs h hO hN5 i y hi hy hn hr hp
  · exact stand_more w B n b S N cs h hO hN5 i y hi hy hn hr

#print axioms stand_any
end Go.Proofs.Ytejckoffllhjcaa
