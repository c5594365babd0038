/-
  The contract of (*group).tell of package causal.
-/
import Derived.Test.YtkchccaeopdemaaDlv
namespace Go.Proofs.Ytkchccaeopdemaa
open Go.RowKit Go.Maps Go.Deep

theorem infoMsg : (Try.prog.info? 59).map (fun i => (i.zero, i.size, i.bytes)) = some (some (.agg #[.int .i64 0, .int .i64 0]), 2, 16) := by kernel_rfl

set_option linter.unusedSimpArgs false in
set_option maxHeartbeats 4000000 in
set_option maxRecDepth 100000 in
theorem tell_any (w : World) (B gb n P : Nat) (S : CS) (hS : Grp w B gb n P S) (i : Nat) (hi : i < n) (hl : (S.td i).length ≤ 1000) (hm : S.m ≤ 1000) :
    Calls Try.prog 21 #[.pointer (some ⟨gb, 0, none⟩), .int .i64 (i : Int)] w fun e w' => e = .returned (.tuple #[]) ∧ Grp w' B gb n P (S.tell i) ∧ Bl B w w' := by
  obtain ⟨j0, hi0, hz0, hz1, hz2⟩ := info_parts infoInt
  have hJi := Lib.hid hi0; have hJz := Lib.hid hz0; have hJs := Lib.hid hz1; have hJb := Lib.hid hz2
  obtain ⟨jm, mi0, mz0, mz1, mz2⟩ := info_parts infoMsg
  have hMi := Lib.hid mi0; have hMz := Lib.hid mz0; have hMs := Lib.hid mz1; have hMb := Lib.hid mz2
  clear hi0 hz0 hz1 hz2 mi0 mz0 mz1 mz2
  obtain ⟨vs, vm, hA⟩ := hS
  have hsz := hA.sz
  obtain ⟨Am, cm, hvm, hm1, hm2⟩ := hA.msgLen
  obtain ⟨At, ct, hvt, ht1, ht2, _⟩ := hA.nums (j := 2 * i) (by omega)
  obtain ⟨g0, g1⟩ := hA.cells
  obtain ⟨c0, _⟩ := hA.proc hi
  rw [hvt] at c0
  subst hvm
  have htd : S.ls (2 * i) = S.td i := rfl
  rw [htd] at hvt ht1 c0
  have hltP := hA.procLt
  have hltG := hA.grp.lt
  have fG : w.frozen? ⟨gb, 1, none⟩ = false := hA.grp.frozen 1
  have hAH := Lib.hid hA
  have hvtH := Lib.hid hvt
  generalize htt : S.td i = t at *
  have httH := Lib.hid htt
  have hiI : (i : Int) < (n : Int) := by omega
  have hownH : Hid (∀ w' : World, w'.heap = (w.alloc (.cells #[.int .i64 (i : Int), .int .i64 (t.length : Int)] 59)).heap → w'.ownsRow B 59 2 (.slice Am S.m cm) S.m (flatG S.m S.sd S.bh)) := fun w' e => owns_blocks hA.msg (fun g _ hg => by rw [e]; exact Below.heap_alloc w _ g hg)
  have hnews : Hid (∀ w' : World, w'.heap = (w.alloc (.cells #[.int .i64 (i : Int), .int .i64 (t.length : Int)] 59)).heap → ∀ j u, [Value.int .i64 (i : Int), Value.int .i64 (t.length : Int)][j]? = some u → w'.cell? ((⟨w.heap.size, 0, none⟩ : Addr).add j) = some u) := fun w' e => World.news_of_block (cs := #[.int .i64 (i : Int), .int .i64 (t.length : Int)]) (t := 59) (fr := (0, 0)) (by rw [e]; exact heap_alloc_new w _)
  have hneP : Hid ((Value.slice Am S.m cm).ownBlock ≠ some P) := by
    obtain ⟨xs, hP, _⟩ := hA.lv.top
    exact owns_ne_row hA.msg hP (by decide)
  have hneG : Hid ((Value.slice Am S.m cm).ownBlock ≠ some gb) := owns_ne_row hA.msg hA.grp (by decide)
  have hgP : ¬ gb = P := by
    obtain ⟨xs, hP, _⟩ := hA.lv.top
    exact hA.grp.ne hP (by decide)
  have hD : (⟨gb, 1, none⟩ : Addr) ≠ ⟨P, i * 2, none⟩ := fun e => hgP (by injection e)
  have a0 := cell_allocV (.cells #[.int .i64 (i : Int), .int .i64 (t.length : Int)] 59) c0 hltP
  have a1 := cell_allocV (.cells #[.int .i64 (i : Int), .int .i64 (t.length : Int)] 59) g1 hltG
  clear hA hvt htt htd
  go_enter Try.func21, Try.ntmps21
  go_wp2_with fail
  refine wp_region_held_drew (S := (fun w' => w'.cell? ⟨P, i * 2, none⟩ = some (.slice At t.length ct))) (by kernel_rfl) ?_ (fun hHeld => ?_)
  · exact c0
  refine wpAnyH_take (i := 0) (v := ?_) rfl (by kernel_rfl) (by kernel_rfl) (by kernel_rfl) (fun _ _ _ h => h) (Or.inl ⟨by rfl, ?_⟩) (by assumption) ?_
  rotate_left
  · (intro w hSw; (try dsimp only at hSw); first | (go_simp; done) | (go_simp; with_reducible rfl))
  try simp only [Act.put, List.setIfInBounds_toArray, List.set_cons_zero, List.set_cons_succ]
  refine wpAnyH_take (i := 1) (v := ?_) rfl (by kernel_rfl) (by kernel_rfl) (by kernel_rfl) (fun _ _ _ h => h) (Or.inl ⟨by rfl, ?_⟩) (by assumption) ?_
  rotate_left
  · (intro w hSw; (try dsimp only at hSw); first | (go_simp; done) | (go_simp; with_reducible rfl))
  try simp only [Act.put, List.setIfInBounds_toArray, List.set_cons_zero, List.set_cons_succ]
  refine wpAnyH_take (i := 2) (v := ?_) rfl (by kernel_rfl) (by kernel_rfl) (by kernel_rfl) (fun _ _ _ h => h) (Or.inl ⟨by rfl, ?_⟩) (by assumption) ?_
  rotate_left
  · (intro w hSw; (try dsimp only at hSw); first | (go_simp; done) | (go_simp; with_reducible rfl))
  try simp only [Act.put, List.setIfInBounds_toArray, List.set_cons_zero, List.set_cons_succ]
  refine wpAnyH_take (i := 3) (v := ?_) rfl (by kernel_rfl) (by kernel_rfl) (by kernel_rfl) (fun _ _ _ h => h) (Or.inl ⟨by rfl, ?_⟩) (by assumption) ?_
  rotate_left
  · (intro w hSw; (try dsimp only at hSw); first | (go_simp; done) | (go_simp; with_reducible rfl))
  try simp only [Act.put, List.setIfInBounds_toArray, List.set_cons_zero, List.set_cons_succ]
  refine wpAnyH_take (i := 5) (v := ?_) rfl (by kernel_rfl) (by kernel_rfl) (by kernel_rfl) (fun _ _ _ h => h) (Or.inl ⟨by rfl, ?_⟩) (by assumption) ?_
  rotate_left
  · (intro w hSw; (try dsimp only at hSw); first | (go_simp; done) | (go_simp; with_reducible rfl))
  try simp only [Act.put, List.setIfInBounds_toArray, List.set_cons_zero, List.set_cons_succ]
  refine wpAnyH_take (i := 6) (v := ?_) rfl (by kernel_rfl) (by kernel_rfl) (by kernel_rfl) (fun _ _ _ h => h) (Or.inl ⟨by rfl, ?_⟩) (by assumption) ?_
  rotate_left
  · (intro w hSw; (try dsimp only at hSw); first | (go_simp; done) | (go_simp; with_reducible rfl))
  try simp only [Act.put, List.setIfInBounds_toArray, List.set_cons_zero, List.set_cons_succ]
  refine wpAnyH_take (i := 7) (v := ?_) rfl (by kernel_rfl) (by kernel_rfl) (by kernel_rfl) (fun _ _ _ h => h) (Or.inl ⟨by rfl, ?_⟩) (by assumption) ?_
  rotate_left
  · (intro w hSw; (try dsimp only at hSw); first | (go_simp; done) | (go_simp; with_reducible rfl))
  try simp only [Act.put, List.setIfInBounds_toArray, List.set_cons_zero, List.set_cons_succ]
  refine wpAnyH_take (i := 8) (v := ?_) rfl (by kernel_rfl) (by kernel_rfl) (by kernel_rfl) (fun _ _ _ h => h) (Or.inl ⟨by rfl, ?_⟩) (by assumption) ?_
  rotate_left
  · (intro w hSw; (try dsimp only at hSw); first | (go_simp; done) | (go_simp; with_reducible rfl))
  try simp only [Act.put, List.setIfInBounds_toArray, List.set_cons_zero, List.set_cons_succ]
  refine wpAnyH_take (i := 9) (v := ?_) rfl (by kernel_rfl) (by kernel_rfl) (by kernel_rfl) (fun _ _ _ h => h) (Or.inl ⟨by rfl, ?_⟩) (by assumption) ?_
  rotate_left
  · (intro w hSw; (try dsimp only at hSw); first | (go_simp; done) | (go_simp; with_reducible rfl))
  try simp only [Act.put, List.setIfInBounds_toArray, List.set_cons_zero, List.set_cons_succ]
  refine wpAnyH_take (i := 10) (v := ?_) rfl (by kernel_rfl) (by kernel_rfl) (by kernel_rfl) (fun _ _ _ h => h) (Or.inl ⟨by rfl, ?_⟩) (by assumption) ?_
  rotate_left
  · (intro w hSw; (try dsimp only at hSw); first | (go_simp; done) | (go_simp; with_reducible rfl))
  try simp only [Act.put, List.setIfInBounds_toArray, List.set_cons_zero, List.set_cons_succ]
  refine wpAnyH_take (i := 11) (v := ?_) rfl (by kernel_rfl) (by kernel_rfl) (by kernel_rfl) (fun _ _ _ h => h) (Or.inl ⟨by rfl, ?_⟩) (by assumption) ?_
  rotate_left
  · (intro w hSw; (try dsimp only at hSw); first | (go_simp; done) | (go_simp; with_reducible rfl))
  try simp only [Act.put, List.setIfInBounds_toArray, List.set_cons_zero, List.set_cons_succ]
  refine wpAnyH_ready (rs := [4, 12]) (by kernel_rfl) (by simp) ?_
  refine AllReadyH.cons rfl (fun K hK => ?_) (AllReadyH.cons rfl (fun K hK => ?_) AllReadyH.nil)
  · go_simp
    refine hK.out _ _ ?_ (fun hHeld => ?_)
    · exact hHeld
    clear hK K
    try simp only [Act.put, List.setIfInBounds_toArray, List.set_cons_zero, List.set_cons_succ]
    refine wpAnyH_ready (rs := [12]) (by kernel_rfl) (by simp) ?_
    refine AllReadyH.cons rfl (fun K hK => ?_) AllReadyH.nil
    go_simp
    refine hK.out _ _ ?_ (fun hHeld => ?_)
    · exact a0
    clear hK K
    try simp only [Act.put, List.setIfInBounds_toArray, List.set_cons_zero, List.set_cons_succ]
    refine wpAnyH_ready (rs := [13]) (by kernel_rfl) (by simp) ?_
    refine AllReadyH.cons rfl (fun K hK => ?_) AllReadyH.nil
    refine step_append_lies _ (by rfl) _ _ _ (by rfl) B 59 jm (.agg #[.int .i64 0, .int .i64 0]) 2 16 Try.underlying48 hMi.out hMz.out hMs.out hMb.out (by rfl) (by decide) (.slice Am S.m cm) S.m (flatG S.m S.sd S.bh) (by rfl) (hownH.out _ rfl) ⟨w.heap.size, 0, none⟩ 1 1 [.int .i64 (i : Int), .int .i64 (t.length : Int)] (by rfl) (by rfl) (hnews.out _ rfl) (by simp [Value.oneCell']) (by omega) (by unfold maxLen; omega) (by omega) (by simp; omega) (w.heap.size + 1) (by simp) ?_
    intro ga capa wa howna hgrowa hata hltga
    have hgr : (w.alloc (.cells #[.int .i64 (i : Int), .int .i64 (t.length : Int)] 59)).grownBy wa (Value.slice Am S.m cm).ownBlock := ⟨hgrowa.os, hgrowa.tape, hgrowa.output, hgrowa.size, hgrowa.block⟩
    have e0 : wa.cell? ⟨P, i * 2, none⟩ = some (.slice At t.length ct) := hgr.cell a0 (fun e => hneP.out e.symm)
    have e1 : wa.cell? ⟨gb, 1, none⟩ = some (.slice Am S.m cm) := hgr.cell a1 (fun e => hneG.out e.symm)
    have ef : wa.frozen? ⟨gb, 1, none⟩ = false := (World.frozen?_of_block (hgr.block gb (by simp; omega) (fun e => hneG.out e.symm))).trans ((World.frozen?_of_block (Below.heap_alloc w _ gb hltG)).trans fG)
    have hk : ∀ v, (wa.setCell ⟨gb, 1, none⟩ v).cell? ⟨P, i * 2, none⟩ = some (.slice At t.length ct) := fun v => (World.cell?_setCell_other _ _ _ _ hD).trans e0
    refine hK.out _ _ ?_ (fun hHeld => ?_)
    · exact e0
    clear hK K
    try simp only [Act.put, List.setIfInBounds_toArray, List.set_cons_zero, List.set_cons_succ]
    refine wpAnyH_take (i := 14) (v := ?_) rfl (by kernel_rfl) (by kernel_rfl) (by kernel_rfl) (fun _ _ _ h => h) (Or.inl ⟨by rfl, ?_⟩) (by assumption) ?_
    rotate_left
    · (intro w hSw; (try dsimp only at hSw); first | (go_simp; done) | (go_simp; with_reducible rfl))
    try simp only [Act.put, List.setIfInBounds_toArray, List.set_cons_zero, List.set_cons_succ]
    refine wpAnyH_take (i := 15) (v := ?_) rfl (by kernel_rfl) (by kernel_rfl) (by kernel_rfl) (fun _ _ _ h => h) (Or.inl ⟨by rfl, ?_⟩) (by assumption) ?_
    rotate_left
    · (intro w hSw; (try dsimp only at hSw); first | (go_simp; done) | (go_simp; with_reducible rfl))
    try simp only [Act.put, List.setIfInBounds_toArray, List.set_cons_zero, List.set_cons_succ]
    refine wpAnyH_ready (rs := [16]) (by kernel_rfl) (by simp) ?_
    refine AllReadyH.cons rfl (fun K hK => ?_) AllReadyH.nil
    go_simp
    refine hK.out _ _ ?_ (fun hHeld => ?_)
    · exact hk _
    clear hK K
    try simp only [Act.put, List.setIfInBounds_toArray, List.set_cons_zero, List.set_cons_succ]
    refine wpAnyH_done (by kernel_rfl) ?_ _
    have hA3 := (hAH.out.alloc (.cells #[.int .i64 (i : Int), .int .i64 (t.length : Int)] 59)).more (s := i) (b := t) howna hgr
    have hBl3 : Bl B w (wa.setCell ⟨gb, 1, none⟩ (.slice (some ⟨ga, 0, none⟩) (S.m + 1) capa)) :=
      (((Bl.refl B w).alloc hsz (.cells #[.int .i64 (i : Int), .int .i64 (t.length : Int)] 59)).grown hgr (hAH.out.alloc _).msg (.inr rfl) (by simp; omega)).setRow (p := ⟨gb, 1, none⟩) ((hAH.out.alloc _).grp.grown hgr (fun e => hneG.out e.symm)) (.inr rfl) hAH.out.low _
    have y0 := hk (.slice (some ⟨ga, 0, none⟩) (S.m + 1) capa)
    have hAH3 := Lib.hid hA3
    have hBlH3 := Lib.hid hBl3
    clear hA3 hBl3 hk e0 e1 ef hgr howna hgrowa hata hltga a0 a1 c0 g0 g1 fG
    generalize hw4 : wa.setCell ⟨gb, 1, none⟩ (.slice (some ⟨ga, 0, none⟩) (S.m + 1) capa) = w4 at *
    clear hw4
    have hltP4 := hAH3.out.procLt
    have hsz4 := hAH3.out.sz
    have hown4 : (w4.alloc (.cells #[.int .i64 (S.m : Int)] 3)).ownsRow B 3 1 (.slice At t.length ct) t.length (nv t) := by
      have := (hAH3.out.alloc (.cells #[.int .i64 (S.m : Int)] 3)).own (j := 2 * i) (by omega)
      rw [hvtH.out] at this
      have e : ({ S with m := S.m + 1, sd := up1 S.sd S.m i, bh := up1 S.bh S.m t } : CS).ls (2 * i) = t := httH.out
      rw [e] at this
      exact this
    have hn4 : Hid (∀ j u, [Value.int .i64 (S.m : Int)][j]? = some u → (w4.alloc (.cells #[.int .i64 (S.m : Int)] 3)).cell? ((⟨w4.heap.size, 0, none⟩ : Addr).add j) = some u) := World.news_of_block (cs := #[.int .i64 (S.m : Int)]) (t := 3) (fr := (0, 0)) (heap_alloc_new w4 _)
    have hne4 : Hid ((Value.slice At t.length ct).ownBlock ≠ some P) := by
      obtain ⟨xs, hP, _⟩ := (hAH3.out.alloc (.cells #[.int .i64 (S.m : Int)] 3)).lv.top
      exact owns_ne_row hown4 hP (by decide)
    have b0 := cell_allocV (.cells #[.int .i64 (S.m : Int)] 3) y0 hltP4
    have f4 : w4.frozen? ⟨P, i * 2, none⟩ = false := hAH3.out.lv.frozen _
    have hown4H := Lib.hid hown4
    clear hown4
    go_wp2_with (first
      | (at_builtin; refine wpList_append_lies _ rfl (.tmp 37) (.tmp 39) 37 rfl B 3 j0 (.int .i64 0) 1 8 Try.underlying37 hJi.out hJz.out hJs.out hJb.out rfl (by decide) (.slice At t.length ct) t.length (nv t) rfl hown4H.out ⟨w4.heap.size, 0, none⟩ 1 1 [.int .i64 (S.m : Int)] rfl rfl hn4.out (by simp [Value.oneCell']) (by omega) (by unfold maxLen; omega) (by omega) (by simp; omega) _ rfl ?_; intro gc capc wc hownc hgrc hatc hltgc; have z0 : wc.cell? ⟨P, i * 2, none⟩ = some (.slice At t.length ct) := hgrc.cell b0 (fun e => hne4.out e.symm); have zf : wc.frozen? ⟨P, i * 2, none⟩ = false := (World.frozen?_of_block (hgrc.block P (by simp; omega) (fun e => hne4.out e.symm))).trans ((World.frozen?_of_block (Below.heap_alloc w4 _ P hltP4)).trans f4)))
    have hA6 := (hAH3.out.alloc (.cells #[.int .i64 (S.m : Int)] 3)).putT (w' := wc) hi (OwnN.push hownc) (by rw [hvtH.out]; exact hgrc) (by rw [hvtH.out]; rcases hatc with h | h; exact .inl h.symm; exact .inr ⟨gc, rfl, by rw [h]; simp⟩)
    have hBl6 := GrpAt.blPut (hBlH3.out.alloc hsz4 (.cells #[.int .i64 (S.m : Int)] 3)) (hAH3.out.alloc (.cells #[.int .i64 (S.m : Int)] 3)) (j := 2 * i) (k := i * 2) (w' := wc) (by omega) (by rw [hvtH.out]; exact hgrc) (.slice (some ⟨gc, 0, none⟩) (t.length + 1) capc)
    go_end0
    refine ⟨rfl, ?_, hBl6⟩
    have e : S.tell i = { ({ S with m := S.m + 1, sd := up1 S.sd S.m i, bh := up1 S.bh S.m t } : CS) with ls := up1 S.ls (2 * i) (t ++ [S.m]) } := by
      unfold CS.tell
      rw [httH.out]
    rw [e]
    exact ⟨_, _, hA6⟩
  · go_simp
    refine hK.out _ _ ?_ (fun hHeld => ?_)
    · exact a0
    clear hK K
    try simp only [Act.put, List.setIfInBounds_toArray, List.set_cons_zero, List.set_cons_succ]
    refine wpAnyH_ready (rs := [4]) (by kernel_rfl) (by simp) ?_
    refine AllReadyH.cons rfl (fun K hK => ?_) AllReadyH.nil
    go_simp
    refine hK.out _ _ ?_ (fun hHeld => ?_)
    · exact hHeld
    clear hK K
    try simp only [Act.put, List.setIfInBounds_toArray, List.set_cons_zero, List.set_cons_succ]
    refine wpAnyH_ready (rs := [13]) (by kernel_rfl) (by simp) ?_
    refine AllReadyH.cons rfl (fun K hK => ?_) AllReadyH.nil
    refine step_append_lies _ (by rfl) _ _ _ (by rfl) B 59 jm (.agg #[.int .i64 0, .int .i64 0]) 2 16 Try.underlying48 hMi.out hMz.out hMs.out hMb.out (by rfl) (by decide) (.slice Am S.m cm) S.m (flatG S.m S.sd S.bh) (by rfl) (hownH.out _ rfl) ⟨w.heap.size, 0, none⟩ 1 1 [.int .i64 (i : Int), .int .i64 (t.length : Int)] (by rfl) (by rfl) (hnews.out _ rfl) (by simp [Value.oneCell']) (by omega) (by unfold maxLen; omega) (by omega) (by simp; omega) (w.heap.size + 1) (by simp) ?_
    intro ga capa wa howna hgrowa hata hltga
    have hgr : (w.alloc (.cells #[.int .i64 (i : Int), .int .i64 (t.length : Int)] 59)).grownBy wa (Value.slice Am S.m cm).ownBlock := ⟨hgrowa.os, hgrowa.tape, hgrowa.output, hgrowa.size, hgrowa.block⟩
    have e0 : wa.cell? ⟨P, i * 2, none⟩ = some (.slice At t.length ct) := hgr.cell a0 (fun e => hneP.out e.symm)
    have e1 : wa.cell? ⟨gb, 1, none⟩ = some (.slice Am S.m cm) := hgr.cell a1 (fun e => hneG.out e.symm)
    have ef : wa.frozen? ⟨gb, 1, none⟩ = false := (World.frozen?_of_block (hgr.block gb (by simp; omega) (fun e => hneG.out e.symm))).trans ((World.frozen?_of_block (Below.heap_alloc w _ gb hltG)).trans fG)
    have hk : ∀ v, (wa.setCell ⟨gb, 1, none⟩ v).cell? ⟨P, i * 2, none⟩ = some (.slice At t.length ct) := fun v => (World.cell?_setCell_other _ _ _ _ hD).trans e0
    refine hK.out _ _ ?_ (fun hHeld => ?_)
    · exact e0
    clear hK K
    try simp only [Act.put, List.setIfInBounds_toArray, List.set_cons_zero, List.set_cons_succ]
    refine wpAnyH_take (i := 14) (v := ?_) rfl (by kernel_rfl) (by kernel_rfl) (by kernel_rfl) (fun _ _ _ h => h) (Or.inl ⟨by rfl, ?_⟩) (by assumption) ?_
    rotate_left
    · (intro w hSw; (try dsimp only at hSw); first | (go_simp; done) | (go_simp; with_reducible rfl))
    try simp only [Act.put, List.setIfInBounds_toArray, List.set_cons_zero, List.set_cons_succ]
    refine wpAnyH_take (i := 15) (v := ?_) rfl (by kernel_rfl) (by kernel_rfl) (by kernel_rfl) (fun _ _ _ h => h) (Or.inl ⟨by rfl, ?_⟩) (by assumption) ?_
    rotate_left
    · (intro w hSw; (try dsimp only at hSw); first | (go_simp; done) | (go_simp; with_reducible rfl))
    try simp only [Act.put, List.setIfInBounds_toArray, List.set_cons_zero, List.set_cons_succ]
    refine wpAnyH_ready (rs := [16]) (by kernel_rfl) (by simp) ?_
    refine AllReadyH.cons rfl (fun K hK => ?_) AllReadyH.nil
    go_simp
    refine hK.out _ _ ?_ (fun hHeld => ?_)
    · exact hk _
    clear hK K
    try simp only [Act.put, List.setIfInBounds_toArray, List.set_cons_zero, List.set_cons_succ]
    refine wpAnyH_done (by kernel_rfl) ?_ _
    have hA3 := (hAH.out.alloc (.cells #[.int .i64 (i : Int), .int .i64 (t.length : Int)] 59)).more (s := i) (b := t) howna hgr
    have hBl3 : Bl B w (wa.setCell ⟨gb, 1, none⟩ (.slice (some ⟨ga, 0, none⟩) (S.m + 1) capa)) :=
      (((Bl.refl B w).alloc hsz (.cells #[.int .i64 (i : Int), .int .i64 (t.length : Int)] 59)).grown hgr (hAH.out.alloc _).msg (.inr rfl) (by simp; omega)).setRow (p := ⟨gb, 1, none⟩) ((hAH.out.alloc _).grp.grown hgr (fun e => hneG.out e.symm)) (.inr rfl) hAH.out.low _
    have y0 := hk (.slice (some ⟨ga, 0, none⟩) (S.m + 1) capa)
    have hAH3 := Lib.hid hA3
    have hBlH3 := Lib.hid hBl3
    clear hA3 hBl3 hk e0 e1 ef hgr howna hgrowa hata hltga a0 a1 c0 g0 g1 fG
    generalize hw4 : wa.setCell ⟨gb, 1, none⟩ (.slice (some ⟨ga, 0, none⟩) (S.m + 1) capa) = w4 at *
    clear hw4
    have hltP4 := hAH3.out.procLt
    have hsz4 := hAH3.out.sz
    have hown4 : (w4.alloc (.cells #[.int .i64 (S.m : Int)] 3)).ownsRow B 3 1 (.slice At t.length ct) t.length (nv t) := by
      have := (hAH3.out.alloc (.cells #[.int .i64 (S.m : Int)] 3)).own (j := 2 * i) (by omega)
      rw [hvtH.out] at this
      have e : ({ S with m := S.m + 1, sd := up1 S.sd S.m i, bh := up1 S.bh S.m t } : CS).ls (2 * i) = t := httH.out
      rw [e] at this
      exact this
    have hn4 : Hid (∀ j u, [Value.int .i64 (S.m : Int)][j]? = some u → (w4.alloc (.cells #[.int .i64 (S.m : Int)] 3)).cell? ((⟨w4.heap.size, 0, none⟩ : Addr).add j) = some u) := World.news_of_block (cs := #[.int .i64 (S.m : Int)]) (t := 3) (fr := (0, 0)) (heap_alloc_new w4 _)
    have hne4 : Hid ((Value.slice At t.length ct).ownBlock ≠ some P) := by
      obtain ⟨xs, hP, _⟩ := (hAH3.out.alloc (.cells #[.int .i64 (S.m : Int)] 3)).lv.top
      exact owns_ne_row hown4 hP (by decide)
    have b0 := cell_allocV (.cells #[.int .i64 (S.m : Int)] 3) y0 hltP4
    have f4 : w4.frozen? ⟨P, i * 2, none⟩ = false := hAH3.out.lv.frozen _
    have hown4H := Lib.hid hown4
    clear hown4
    go_wp2_with (first
      | (at_builtin; refine wpList_append_lies _ rfl (.tmp 37) (.tmp 39) 37 rfl B 3 j0 (.int .i64 0) 1 8 Try.underlying37 hJi.out hJz.out hJs.out hJb.out rfl (by decide) (.slice At t.length ct) t.length (nv t) rfl hown4H.out ⟨w4.heap.size, 0, none⟩ 1 1 [.int .i64 (S.m : Int)] rfl rfl hn4.out (by simp [Value.oneCell']) (by omega) (by unfold maxLen; omega) (by omega) (by simp; omega) _ rfl ?_; intro gc capc wc hownc hgrc hatc hltgc; have z0 : wc.cell? ⟨P, i * 2, none⟩ = some (.slice At t.length ct) := hgrc.cell b0 (fun e => hne4.out e.symm); have zf : wc.frozen? ⟨P, i * 2, none⟩ = false := (World.frozen?_of_block (hgrc.block P (by simp; omega) (fun e => hne4.out e.symm))).trans ((World.frozen?_of_block (Below.heap_alloc w4 _ P hltP4)).trans f4)))
    have hA6 := (hAH3.out.alloc (.cells #[.int .i64 (S.m : Int)] 3)).putT (w' := wc) hi (OwnN.push hownc) (by rw [hvtH.out]; exact hgrc) (by rw [hvtH.out]; rcases hatc with h | h; exact .inl h.symm; exact .inr ⟨gc, rfl, by rw [h]; simp⟩)
    have hBl6 := GrpAt.blPut (hBlH3.out.alloc hsz4 (.cells #[.int .i64 (S.m : Int)] 3)) (hAH3.out.alloc (.cells #[.int .i64 (S.m : Int)] 3)) (j := 2 * i) (k := i * 2) (w' := wc) (by omega) (by rw [hvtH.out]; exact hgrc) (.slice (some ⟨gc, 0, none⟩) (t.length + 1) capc)
    go_end0
    refine ⟨rfl, ?_, hBl6⟩
    have e : S.tell i = { ({ S with m := S.m + 1, sd := up1 S.sd S.m i, bh := up1 S.bh S.m t } : CS) with ls := up1 S.ls (2 * i) (t ++ [S.m]) } := by
      unfold CS.tell
      rw [httH.out]
    rw [e]
    exact ⟨_, _, hA6⟩

#print axioms tell_any
end Go.Proofs.Ytkchccaeopdemaa
