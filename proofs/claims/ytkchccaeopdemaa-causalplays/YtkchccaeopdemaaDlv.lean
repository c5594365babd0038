/-
  The contract of (*group).deliver of package causal.
-/
import Derived.Test.YtkchccaeopdemaaRdy
import Derived.Deep.LoopGhost
import Derived.Deep.AppendLies
import Derived.Deep.RegionHeld3
namespace Go.Proofs.Ytkchccaeopdemaa
open Go.RowKit Go.Maps Go.Deep

theorem first_none {bh : Nat → List Nat} {t q : List Nat} {r : Int} (h : FirstAt (rdy bh t) q r) (hr : r < 0) : dstep bh t q = none := by
  rcases h with ⟨_, h⟩ | ⟨j, hj, e, _⟩
  · exact dstep_none.2 h
  · omega
theorem first_some {bh : Nat → List Nat} {t q : List Nat} {r : Int} (h : FirstAt (rdy bh t) q r) (hr : ¬ r < 0) : ∃ j : Nat, ∃ hj : j < q.length, r = (j : Int) ∧ dstep bh t q = some q[j] := by
  rcases h with ⟨e, _⟩ | ⟨j, hj, e, h1, h2⟩
  · omega
  · refine ⟨j, hj, e, ?_⟩
    unfold dstep
    rw [List.find?_eq_some_iff_getElem]
    exact ⟨h1, j, hj, rfl, fun a ha => by rw [h2 a ha]; rfl⟩
theorem erase_at {q : List Nat} (hq : q.Nodup) {j : Nat} (hj : j < q.length) : q.erase q[j] = q.take j ++ q.drop (j + 1) := by
  have hs : q = q.take j ++ q[j] :: q.drop (j + 1) := by rw [← List.drop_eq_getElem_cons hj, List.take_append_drop]
  have hn : q[j] ∉ q.take j := by
    intro h
    obtain ⟨a, ha, e⟩ := List.getElem_of_mem h
    rw [List.getElem_take] at e
    have ha2 : a < j := by rw [List.length_take] at ha; omega
    have := List.pairwise_iff_getElem.1 hq a j (by omega) hj ha2
    exact this e
  generalize hx : q[j] = x at *
  conv => lhs; rw [hs]
  rw [List.erase_append_right _ hn, List.erase_cons_head]

theorem OwnN.shape {w : World} {B : Nat} {v : Value} {q : List Nat} (h : OwnN w B v q) : ∃ A cap, v = .slice A q.length cap := by
  rcases h.2 with ⟨h1, h0⟩ | ⟨g, cap, cur, hv, _⟩
  · exact ⟨none, 0, by rw [h1, h0]⟩
  · exact ⟨_, cap, hv⟩
theorem OwnN.push {w : World} {B g cap : Nat} {t : List Nat} {x : Nat} (h : w.ownsRow B 3 1 (.slice (some ⟨g, 0, none⟩) (t.length + 1) cap) (t.length + 1) (nv t ++ [.int .i64 (x : Int)])) : OwnN w B (.slice (some ⟨g, 0, none⟩) (t.length + 1) cap) (t ++ [x]) := by
  unfold OwnN
  have e1 : nv (t ++ [x]) = nv t ++ [.int .i64 (x : Int)] := by simp [nv]
  rw [e1, List.length_append, List.length_singleton]
  exact h
/-- A process's first list turned. -/
theorem GrpAt.putT {w w' : World} {B gb n P : Nat} {vs : Nat → Value} {vm : Value} {S : CS} (h : GrpAt w B gb n P vs vm S) {i : Nat} {v' : Value} {q : List Nat} (hi : i < n) (hown : OwnN w' B v' q) (hg : w.grownBy w' (vs (2 * i)).ownBlock) (hat : v'.ownBlock = (vs (2 * i)).ownBlock ∨ ∃ g, v'.ownBlock = some g ∧ w.heap.size ≤ g) :
    GrpAt (w'.setCell ⟨P, i * 2, none⟩ v') B gb n P (vputV vs (2 * i) v') vm { S with ls := up1 S.ls (2 * i) q } := by
  rw [Nat.mul_comm i 2]
  exact h.put (by omega) hown hg hat
theorem GrpAt.putW {w w' : World} {B gb n P : Nat} {vs : Nat → Value} {vm : Value} {S : CS} (h : GrpAt w B gb n P vs vm S) {i : Nat} {v' : Value} {q : List Nat} (hi : i < n) (hown : OwnN w' B v' q) (hg : w.grownBy w' (vs (2 * i + 1)).ownBlock) (hat : v'.ownBlock = (vs (2 * i + 1)).ownBlock ∨ ∃ g, v'.ownBlock = some g ∧ w.heap.size ≤ g) :
    GrpAt (w'.setCell ⟨P, i * 2 + 1, none⟩ v') B gb n P (vputV vs (2 * i + 1) v') vm { S with ls := up1 S.ls (2 * i + 1) q } := by
  rw [Nat.mul_comm i 2]
  exact h.put (by omega) hown hg hat
theorem GrpAt.blPut {w1 w w' : World} {B gb n P : Nat} {vs : Nat → Value} {vm : Value} {S : CS} (hb : Bl B w1 w) (h : GrpAt w B gb n P vs vm S) {j k : Nat} (hj : j < 2 * n) (hg : w.grownBy w' (vs j).ownBlock) (v' : Value) : Bl B w1 (w'.setCell ⟨P, k, none⟩ v') := by
  obtain ⟨xs, hP, _⟩ := h.lv.top
  have ho := h.own hj
  exact (hb.grown hg ho (.inl rfl) h.sz).setRow (p := ⟨P, k, none⟩) (hP.grown hg (fun e => owns_ne_row ho hP (by decide) e.symm)) (.inl rfl) h.lv.low v'

def DlvRel (w1 : World) (B gb n P b1 b2 i : Nat) (S : CS) (L k : Nat) (wr : World) : Prop :=
  ∃ t q, q.length = k ∧ Grp wr B gb n P (S.put i t q) ∧ Bl B w1 wr ∧ Boxes wr b1 b2 gb ⟨P, i * 2, none⟩ ∧ dlv S.bh t q = dlv S.bh (S.td i) (S.wt i) ∧ PI S.m S.bh t q ∧ (∃ s, t = S.td i ++ s) ∧ t.length + q.length = L

set_option linter.unusedSimpArgs false in
set_option maxHeartbeats 4000000 in
set_option maxRecDepth 100000 in
theorem deliver_any (w : World) (B gb n P : Nat) (S : CS) (hS : Grp w B gb n P S) (hI : CI0 n S) (i : Nat) (hi : i < n) (hl : ∀ j, (S.ls j).length ≤ 400) (hn : n ≤ 6) (hm : S.m ≤ 1000) :
    Calls Try.prog 26 #[.pointer (some ⟨gb, 0, none⟩), .pointer (some ⟨P, i * 2, none⟩)] w fun e w' => e = .returned (.tuple #[]) ∧ Grp w' B gb n P (S.put i (dlv S.bh (S.td i) (S.wt i)).1 (dlv S.bh (S.td i) (S.wt i)).2) ∧ Bl B w w' := by
  obtain ⟨j0, hi0, hz0, hz1, hz2⟩ := info_parts infoInt
  have hJi := Lib.hid hi0; have hJz := Lib.hid hz0; have hJs := Lib.hid hz1; have hJb := Lib.hid hz2
  clear hi0 hz0 hz1 hz2
  have hsz := hS.sz
  have hS1 := (hS.alloc (.cells #[.pointer (some ⟨gb, 0, none⟩)] 46)).alloc (.cells #[.pointer (some ⟨P, i * 2, none⟩)] 57)
  have hB1 := ((Bl.refl B w).alloc hsz (.cells #[.pointer (some ⟨gb, 0, none⟩)] 46)).alloc (by simp; omega) (.cells #[.pointer (some ⟨P, i * 2, none⟩)] 57)
  have hX1 : Boxes ((w.alloc (.cells #[.pointer (some ⟨gb, 0, none⟩)] 46)).alloc (.cells #[.pointer (some ⟨P, i * 2, none⟩)] 57)) w.heap.size (w.heap.size + 1) gb ⟨P, i * 2, none⟩ := by
    refine ⟨(Row.made w 46 [.pointer (some ⟨gb, 0, none⟩)]).alloc _, ?_⟩
    have := Row.made (w.alloc (.cells #[.pointer (some ⟨gb, 0, none⟩)] 46)) 57 [.pointer (some ⟨P, i * 2, none⟩)]
    rw [show (w.alloc (.cells #[.pointer (some ⟨gb, 0, none⟩)] 46)).heap.size = w.heap.size + 1 by simp] at this
    exact this
  have hrel0 : Hid (DlvRel w B gb n P w.heap.size (w.heap.size + 1) i S ((S.td i).length + (S.wt i).length) (S.wt i).length ((w.alloc (.cells #[.pointer (some ⟨gb, 0, none⟩)] 46)).alloc (.cells #[.pointer (some ⟨P, i * 2, none⟩)] 57))) :=
    ⟨S.td i, S.wt i, rfl, by rw [CS.put_self]; exact hS1, hB1, hX1, rfl, hI.pi i, ⟨[], by simp⟩, rfl⟩
  have hL : (S.td i).length + (S.wt i).length ≤ 800 := by have h1 := hl (2 * i); have h2 := hl (2 * i + 1); unfold CS.td CS.wt; omega
  have hIH := Lib.hid hI
  have hlH := Lib.hid hl
  have hPI := Lib.hid (hI.pi i)
  clear hS hS1 hB1 hX1 hI hl
  generalize hLL : (S.td i).length + (S.wt i).length = L at *
  clear hLL
  go_enter Try.func26, Try.ntmps26
  go_wp2_with fail
  generalize (w.alloc (.cells #[.pointer (some ⟨gb, 0, none⟩)] 46)).alloc (.cells #[.pointer (some ⟨P, i * 2, none⟩)] 57) = w1 at *
  generalize hb1 : w.heap.size = b1 at *
  generalize hb2 : b1 + 1 = b2 at *
  clear hb2
  go_loopg [5] (S.wt i).length (fun k _ wr => DlvRel w B gb n P b1 b2 i S L k wr)
  case atStart => exact hrel0.out
  case round =>
    obtain ⟨t, q, hqk, hG, hB, hX, hd, hp, hpre, hlen⟩ := hrel
    have hqkH := Lib.hid hqk
    have hlenH := Lib.hid hlen
    have ht8 : t.length ≤ 800 := by omega
    have hq8 : q.length ≤ 800 := by omega
    clear hqk hlen
    clear hrel0
    obtain ⟨vs, vm, hA⟩ := hG
    have htd : (S.put i t q).ls (2 * i) = t := by have := S.put_td i t q i; rw [if_pos rfl] at this; exact this
    have hwt : (S.put i t q).ls (2 * i + 1) = q := by have := S.put_wt i t q i; rw [if_pos rfl] at this; exact this
    have hls : ∀ j, ((S.put i t q).ls j).length ≤ 1000 := fun j => by
      show (up1 (up1 S.ls (2 * i) t) (2 * i + 1) q j).length ≤ 1000
      unfold up1
      split
      · omega
      · split
        · omega
        · have := hlH.out j; omega
    obtain ⟨Aq, cq, hvq, hq1, hq2, hNq⟩ := hA.nums (j := 2 * i + 1) (by omega)
    rw [hwt] at hvq hq1 hNq
    obtain ⟨_, c1⟩ := hA.proc hi
    rw [hvq] at c1
    have x2 := hX.2.cell (i := 0) (by simp)
    simp only [List.getElem_cons_zero] at x2
    have hqm : ∀ x ∈ q, x < (S.put i t q).m := hp.ql
    have hcc := Lib.hid (indexfunc_any wr B gb n P b1 b2 (S.put i t q) ⟨vs, vm, hA⟩ (hIH.out.put hpre hp) i hX hi hls hn hm Aq cq q hNq (by omega) hqm)
    have htdi : (S.put i t q).td i = t := htd
    rw [htdi] at hcc
    have hAH := Lib.hid hA
    have hBH := Lib.hid hB
    have hXH := Lib.hid hX
    have hdH := Lib.hid hd
    have hpH := Lib.hid hp
    have hpreH := Lib.hid hpre
    have htdH := Lib.hid htd
    have hwtH := Lib.hid hwt
    have hvqH := Lib.hid hvq
    clear hA hB hX hd hp hpre htd hwt htdi hvq hls hqm hNq
    go_wp2_with fail
    refine hcc.out.mono ?_
    rintro e w2 ⟨r, rfl, hF, hB2⟩
    have hA2 := Lib.hid (hAH.out.below hB2)
    have hBl2 := Lib.hid (hBH.out.below hB2 hAH.out.sz)
    have hX2 := Lib.hid (hXH.out.below hB2)
    have hFH := Lib.hid hF
    clear hcc hAH hBH hXH hB2 c1 x2 hF
    by_cases hr : r < 0
    · have hnone := first_none hFH.out hr
      go_wp2_with fail
      (try simp only [Exit.inBlock, Exit.then])
      refine bodyPost_ret (results_none rfl _ _ _) rfl ?_
      refine ⟨rfl, ?_, hBl2.out⟩
      have hdd : dlv S.bh (S.td i) (S.wt i) = (t, q) := hdH.out.symm.trans (dlv_none hnone)
      rw [hdd]
      exact ⟨vs, vm, hA2.out⟩
    · obtain ⟨j, hj, rfl, hsome⟩ := first_some hFH.out hr
      have hsomeH := Lib.hid hsome
      have hes := Lib.hid (erase_at (sorted_nodup hpH.out.so) hj)
      clear hFH hsome hr
      have hjI : (j : Int) < (q.length : Int) := by omega
      have hA := hA2.out
      obtain ⟨At, ct, hvt, ht1, ht2, _⟩ := hA.nums (j := 2 * i) (by omega)
      have hown := hA.own (j := 2 * i) (by omega)
      rw [htdH.out] at hvt ht1 hown
      obtain ⟨Aq2, cq2, hvq2, _, _, hNq⟩ := hA.nums (j := 2 * i + 1) (by omega)
      rw [hwtH.out] at hvq2 hNq
      obtain ⟨c0, c1⟩ := hA.proc hi
      rw [hvt] at c0
      rw [hvq2] at c1
      obtain ⟨bq, oq, rfl, hbq, hcq⟩ := hNq (by rw [zs_len]; omega)
      have c2 := hcq j (by rw [zs_len]; exact hj)
      have hz : (zs q)[j]'(by rw [zs_len]; exact hj) = ((q[j] : Nat) : Int) := by simp [zs]
      rw [hz] at c2
      clear hcq hz hNq
      have x2 := hX2.out.2.cell (i := 0) (by simp)
      simp only [List.getElem_cons_zero] at x2
      have hbx := hX2.out.2.lt
      have hltP := hA.procLt
      generalize hx : q[j] = x at *
      have hxH := Lib.hid hx
      clear hx
      have f0 : w2.frozen? ⟨P, i * 2, none⟩ = false := hA.lv.frozen _
      have hvtH := Lib.hid hvt
      have hvq2H := Lib.hid hvq2
      have hsz2 := hA.sz
      have hownH : Hid (∀ w' : World, w'.heap = (w2.alloc (.cells #[.int .i64 (x : Int)] 3)).heap → w'.ownsRow B 3 1 (.slice At t.length ct) t.length (nv t)) := fun w' e => owns_blocks (by rw [hvt] at hown; exact hown) (fun g _ hg => by rw [e]; exact Below.heap_alloc w2 _ g hg)
      have hnews : Hid (∀ w' : World, w'.heap = (w2.alloc (.cells #[.int .i64 (x : Int)] 3)).heap → ∀ j u, [Value.int .i64 (x : Int)][j]? = some u → w'.cell? ((⟨w2.heap.size, 0, none⟩ : Addr).add j) = some u) := fun w' e => World.news_of_block (cs := #[.int .i64 (x : Int)]) (t := 3) (fr := (0, 0)) (by rw [e]; exact heap_alloc_new w2 _)
      have hneP : Hid ((Value.slice At t.length ct).ownBlock ≠ some P) := by
        obtain ⟨xs, hP, _⟩ := hA.lv.top
        rw [hvt] at hown
        exact owns_ne_row hown hP (by decide)
      have hneX : Hid ((Value.slice At t.length ct).ownBlock ≠ some b2) := by
        rw [hvt] at hown
        exact owns_ne_row hown hX2.out.2 (by decide)
      have hneq : Hid ((Value.slice At t.length ct).ownBlock ≠ some bq) := by
        have hap := hA.lv.apart (2 * i) (2 * i + 1) (by omega) (by omega) (by omega)
        rw [hvt, hvq2] at hap
        rcases hap with h | h
        · unfold Hid; rw [h]; simp
        · exact h
      have hbqP : ¬ bq = P := fun e => by
        obtain ⟨xs, hP, _⟩ := hA.lv.top
        have ho := hA.own (j := 2 * i + 1) (by omega)
        rw [hvq2] at ho
        exact owns_ne_row ho hP (by decide) (by rw [← e]; rfl)
      have hb2P : ¬ b2 = P := by
        obtain ⟨xs, hP, _⟩ := hA.lv.top
        exact hX2.out.2.ne hP (by decide)
      have hD : ∀ b o, ¬ b = P → (⟨P, i * 2, none⟩ : Addr) ≠ ⟨b, o, none⟩ := fun b o h e => h (by injection e with e; exact e.symm)
      have hE : (⟨P, i * 2, none⟩ : Addr) ≠ ⟨P, i * 2 + 1, none⟩ := fun e => by injection e with _ e; omega
      have a0 := cell_allocV (.cells #[.int .i64 (x : Int)] 3) c0 hltP
      have a1 := cell_allocV (.cells #[.int .i64 (x : Int)] 3) c1 hltP
      have a2 := cell_allocV (.cells #[.int .i64 (x : Int)] 3) x2 hbx
      have a3 := cell_allocV (.cells #[.int .i64 (x : Int)] 3) c2 hbq
      clear hA hown hvt hvq2
      go_wp2_with fail
      refine wp_region_held_drew (S := (fun w' => w'.cell? ⟨b2, 0, none⟩ = some (.pointer (some ⟨P, i * 2, none⟩)) ∧ w'.cell? ⟨P, i * 2 + 1, none⟩ = some (.slice (some ⟨bq, oq, none⟩) q.length cq2) ∧ w'.cell? ⟨bq, oq + j, none⟩ = some (.int .i64 (x : Int)))) (by kernel_rfl) ?_ (fun hHeld => ?_)
      · exact ⟨x2, c1, c2⟩
      refine wpAnyH_take (i := 0) (v := ?_) rfl (by kernel_rfl) (by kernel_rfl) (by kernel_rfl) (fun _ _ _ h => h) (Or.inl ⟨by rfl, ?_⟩) (by assumption) ?_
      rotate_left
      · (intro w hSw; (try dsimp only at hSw); first | (go_simp; done) | (go_simp; with_reducible rfl))
      try simp only [Act.put, List.setIfInBounds_toArray, List.set_cons_zero, List.set_cons_succ]
      refine wpAnyH_take (i := 1) (v := ?_) rfl (by kernel_rfl) (by kernel_rfl) (by kernel_rfl) (fun _ _ _ h => h) (Or.inl ⟨by rfl, ?_⟩) (by assumption) ?_
      rotate_left
      · (intro w hSw; (try dsimp only at hSw); first | (go_simp; done) | (go_simp; with_reducible rfl))
      try simp only [Act.put, List.setIfInBounds_toArray, List.set_cons_zero, List.set_cons_succ]
      refine wpAnyH_take (i := 2) (v := ?_) rfl (by kernel_rfl) (by kernel_rfl) (by kernel_rfl) (fun _ _ _ h => h) (Or.inl ⟨by rfl, ?_⟩) (by assumption) ?_
      rotate_left
      · (intro w hSw; (try dsimp only at hSw); first | (go_simp; done) | (go_simp; with_reducible rfl))
      try simp only [Act.put, List.setIfInBounds_toArray, List.set_cons_zero, List.set_cons_succ]
      refine wpAnyH_take (i := 3) (v := ?_) rfl (by kernel_rfl) (by kernel_rfl) (by kernel_rfl) (fun _ _ _ h => h) (Or.inl ⟨by rfl, ?_⟩) (by assumption) ?_
      rotate_left
      · (intro w hSw; (try dsimp only at hSw); first | (go_simp; done) | (go_simp; with_reducible rfl))
      try simp only [Act.put, List.setIfInBounds_toArray, List.set_cons_zero, List.set_cons_succ]
      refine wpAnyH_take (i := 5) (v := ?_) rfl (by kernel_rfl) (by kernel_rfl) (by kernel_rfl) (fun _ _ _ h => h) (Or.inl ⟨by rfl, ?_⟩) (by assumption) ?_
      rotate_left
      · (intro w hSw; (try dsimp only at hSw); first | (go_simp; done) | (go_simp; with_reducible rfl))
      try simp only [Act.put, List.setIfInBounds_toArray, List.set_cons_zero, List.set_cons_succ]
      refine wpAnyH_take (i := 6) (v := ?_) rfl (by kernel_rfl) (by kernel_rfl) (by kernel_rfl) (fun _ _ _ h => h) (Or.inl ⟨by rfl, ?_⟩) (by assumption) ?_
      rotate_left
      · (intro w hSw; (try dsimp only at hSw); first | (go_simp; done) | (go_simp; with_reducible rfl))
      try simp only [Act.put, List.setIfInBounds_toArray, List.set_cons_zero, List.set_cons_succ]
      refine wpAnyH_take (i := 7) (v := ?_) rfl (by kernel_rfl) (by kernel_rfl) (by kernel_rfl) (fun _ _ _ h => h) (Or.inl ⟨by rfl, ?_⟩) (by assumption) ?_
      rotate_left
      · (intro w hSw; (try dsimp only at hSw); first | (go_simp; done) | (go_simp; with_reducible rfl))
      try simp only [Act.put, List.setIfInBounds_toArray, List.set_cons_zero, List.set_cons_succ]
      refine wpAnyH_take (i := 8) (v := ?_) rfl (by kernel_rfl) (by kernel_rfl) (by kernel_rfl) (fun _ _ _ h => h) (Or.inl ⟨by rfl, ?_⟩) (by assumption) ?_
      rotate_left
      · (intro w hSw; (try dsimp only at hSw); first | (go_simp; done) | (go_simp; with_reducible rfl))
      try simp only [Act.put, List.setIfInBounds_toArray, List.set_cons_zero, List.set_cons_succ]
      refine wpAnyH_take (i := 9) (v := ?_) rfl (by kernel_rfl) (by kernel_rfl) (by kernel_rfl) (fun _ _ _ h => h) (Or.inl ⟨by rfl, ?_⟩) (by assumption) ?_
      rotate_left
      · (intro w hSw; (try dsimp only at hSw); first | (go_simp; done) | (go_simp; with_reducible rfl))
      try simp only [Act.put, List.setIfInBounds_toArray, List.set_cons_zero, List.set_cons_succ]
      refine wpAnyH_take (i := 10) (v := ?_) rfl (by kernel_rfl) (by kernel_rfl) (by kernel_rfl) (fun _ _ _ h => h) (Or.inl ⟨by rfl, ?_⟩) (by assumption) ?_
      rotate_left
      · (intro w hSw; (try dsimp only at hSw); first | (go_simp; done) | (go_simp; with_reducible rfl))
      try simp only [Act.put, List.setIfInBounds_toArray, List.set_cons_zero, List.set_cons_succ]
      refine wpAnyH_take (i := 11) (v := ?_) rfl (by kernel_rfl) (by kernel_rfl) (by kernel_rfl) (fun _ _ _ h => h) (Or.inl ⟨by rfl, ?_⟩) (by assumption) ?_
      rotate_left
      · (intro w hSw; (try dsimp only at hSw); first | (go_simp; done) | (go_simp; with_reducible rfl))
      try simp only [Act.put, List.setIfInBounds_toArray, List.set_cons_zero, List.set_cons_succ]
      refine wpAnyH_ready (rs := [4, 12]) (by kernel_rfl) (by simp) ?_
      refine AllReadyH.cons rfl (fun K hK => ?_) (AllReadyH.cons rfl (fun K hK => ?_) AllReadyH.nil)
      · go_simp
        refine hK.out _ _ ?_ (fun hHeld => ?_)
        · exact hHeld
        clear hK K
        try simp only [Act.put, List.setIfInBounds_toArray, List.set_cons_zero, List.set_cons_succ]
        refine wpAnyH_ready (rs := [12]) (by kernel_rfl) (by simp) ?_
        refine AllReadyH.cons rfl (fun K hK => ?_) AllReadyH.nil
        go_simp
        refine hK.out _ _ ?_ (fun hHeld => ?_)
        · exact ⟨a2, a1, a3⟩
        clear hK K
        try simp only [Act.put, List.setIfInBounds_toArray, List.set_cons_zero, List.set_cons_succ]
        refine wpAnyH_ready (rs := [13]) (by kernel_rfl) (by simp) ?_
        refine AllReadyH.cons rfl (fun K hK => ?_) AllReadyH.nil
        refine step_append_lies _ (by rfl) _ _ _ (by rfl) B 3 j0 (.int .i64 0) 1 8 Try.underlying37 hJi.out hJz.out hJs.out hJb.out (by rfl) (by decide) (.slice At t.length ct) t.length (nv t) (by rfl) (hownH.out _ rfl) ⟨w2.heap.size, 0, none⟩ 1 1 [.int .i64 (x : Int)] (by rfl) (by rfl) (hnews.out _ rfl) (by simp [Value.oneCell']) (by omega) (by unfold maxLen; omega) (by omega) (by simp; omega) (w2.heap.size + 1) (by simp) ?_
        intro ga capa wa howna hgrowa hata hltga
        have hgr : (w2.alloc (.cells #[.int .i64 (x : Int)] 3)).grownBy wa (Value.slice At t.length ct).ownBlock := ⟨hgrowa.os, hgrowa.tape, hgrowa.output, hgrowa.size, hgrowa.block⟩
        have e0 : wa.cell? ⟨P, i * 2, none⟩ = some (.slice At t.length ct) := hgr.cell a0 (fun e => hneP.out e.symm)
        have ef : wa.frozen? ⟨P, i * 2, none⟩ = false := (World.frozen?_of_block (hgr.block P (by simp; omega) (fun e => hneP.out e.symm))).trans ((World.frozen?_of_block (Below.heap_alloc w2 _ P hltP)).trans f0)
        have e2 : wa.cell? ⟨b2, 0, none⟩ = some (.pointer (some ⟨P, i * 2, none⟩)) := hgr.cell a2 (fun e => hneX.out e.symm)
        have e1 : wa.cell? ⟨P, i * 2 + 1, none⟩ = some (.slice (some ⟨bq, oq, none⟩) q.length cq2) := hgr.cell a1 (fun e => hneP.out e.symm)
        have e3 : wa.cell? ⟨bq, oq + j, none⟩ = some (.int .i64 (x : Int)) := hgr.cell a3 (fun e => hneq.out e.symm)
        have hk : ∀ v, (wa.setCell ⟨P, i * 2, none⟩ v).cell? ⟨b2, 0, none⟩ = some (.pointer (some ⟨P, i * 2, none⟩)) ∧ (wa.setCell ⟨P, i * 2, none⟩ v).cell? ⟨P, i * 2 + 1, none⟩ = some (.slice (some ⟨bq, oq, none⟩) q.length cq2) ∧ (wa.setCell ⟨P, i * 2, none⟩ v).cell? ⟨bq, oq + j, none⟩ = some (.int .i64 (x : Int)) := fun v => ⟨(World.cell?_setCell_other _ _ _ _ (hD b2 0 hb2P)).trans e2, (World.cell?_setCell_other _ _ _ _ hE).trans e1, (World.cell?_setCell_other _ _ _ _ (hD bq (oq + j) hbqP)).trans e3⟩
        refine hK.out _ _ ?_ (fun hHeld => ?_)
        · exact ⟨e2, e1, e3⟩
        clear hK K
        try simp only [Act.put, List.setIfInBounds_toArray, List.set_cons_zero, List.set_cons_succ]
        refine wpAnyH_take (i := 14) (v := ?_) rfl (by kernel_rfl) (by kernel_rfl) (by kernel_rfl) (fun _ _ _ h => h) (Or.inl ⟨by rfl, ?_⟩) (by assumption) ?_
        rotate_left
        · (intro w hSw; (try dsimp only at hSw); first | (go_simp; done) | (go_simp; with_reducible rfl))
        try simp only [Act.put, List.setIfInBounds_toArray, List.set_cons_zero, List.set_cons_succ]
        refine wpAnyH_take (i := 15) (v := ?_) rfl (by kernel_rfl) (by kernel_rfl) (by kernel_rfl) (fun _ _ _ h => h) (Or.inl ⟨by rfl, ?_⟩) (by assumption) ?_
        rotate_left
        · (intro w hSw; (try dsimp only at hSw); first | (go_simp; done) | (go_simp; with_reducible rfl))
        try simp only [Act.put, List.setIfInBounds_toArray, List.set_cons_zero, List.set_cons_succ]
        refine wpAnyH_ready (rs := [16]) (by kernel_rfl) (by simp) ?_
        refine AllReadyH.cons rfl (fun K hK => ?_) AllReadyH.nil
        go_simp
        refine hK.out _ _ ?_ (fun hHeld => ?_)
        · exact hk _
        clear hK K
        try simp only [Act.put, List.setIfInBounds_toArray, List.set_cons_zero, List.set_cons_succ]
        refine wpAnyH_done (by kernel_rfl) ?_ _
        have hA3 : GrpAt (wa.setCell ⟨P, i * 2, none⟩ (.slice (some ⟨ga, 0, none⟩) (t.length + 1) capa)) B gb n P (vputV vs (2 * i) (.slice (some ⟨ga, 0, none⟩) (t.length + 1) capa)) vm { S.put i t q with ls := up1 (S.put i t q).ls (2 * i) (t ++ [x]) } :=
          (hA2.out.alloc (.cells #[.int .i64 (x : Int)] 3)).putT hi (OwnN.push howna) (by rw [hvtH.out]; exact hgr) (by rw [hvtH.out]; rcases hata with h | h; exact .inl h.symm; exact .inr ⟨ga, rfl, by simp; omega⟩)
        have hBl3 : Bl B w (wa.setCell ⟨P, i * 2, none⟩ (.slice (some ⟨ga, 0, none⟩) (t.length + 1) capa)) :=
          GrpAt.blPut (hBl2.out.alloc hsz2 (.cells #[.int .i64 (x : Int)] 3)) (hA2.out.alloc (.cells #[.int .i64 (x : Int)] 3)) (j := 2 * i) (by omega) (by rw [hvtH.out]; exact hgr) _
        have hX3 : Boxes (wa.setCell ⟨P, i * 2, none⟩ (.slice (some ⟨ga, 0, none⟩) (t.length + 1) capa)) b1 b2 gb ⟨P, i * 2, none⟩ :=
          hX2.out.bl (GrpAt.blPut ((Bl.refl B w2).alloc hsz2 (.cells #[.int .i64 (x : Int)] 3)) (hA2.out.alloc (.cells #[.int .i64 (x : Int)] 3)) (j := 2 * i) (by omega) (by rw [hvtH.out]; exact hgr) _)
        have hAH3 := Lib.hid hA3
        have hBlH3 := Lib.hid hBl3
        have hXH3 := Lib.hid hX3
        have k1 := hk (.slice (some ⟨ga, 0, none⟩) (t.length + 1) capa)
        obtain ⟨y2, y1, _⟩ := k1
        clear hA3 hBl3 hX3 hk e0 ef e1 e2 e3 hgr howna hgrowa hata hltga a0 a1 a2 a3 c0 c1 c2 x2 f0
        go_wp2_with fail
        generalize hw4 : wa.setCell ⟨P, i * 2, none⟩ (.slice (some ⟨ga, 0, none⟩) (t.length + 1) capa) = w4 at *
        clear hw4
        have hv4 : Hid (vputV vs (2 * i) (.slice (some ⟨ga, 0, none⟩) (t.length + 1) capa) (2 * i + 1) = .slice (some ⟨bq, oq, none⟩) q.length cq2) := by
          unfold Hid vputV
          rw [if_neg (by omega)]; exact hvq2H.out
        have hls4 : Hid (up1 (S.put i t q).ls (2 * i) (t ++ [x]) (2 * i + 1) = q) := (up1_other _ _ (by omega)).trans hwtH.out
        have hown4 : OwnN w4 B (.slice (some ⟨bq, oq, none⟩) q.length cq2) q := by
          have := hAH3.out.own (j := 2 * i + 1) (by omega)
          rw [hv4.out] at this
          rw [← hls4.out]
          rw [hls4.out]
          have e : ({ S.put i t q with ls := up1 (S.put i t q).ls (2 * i) (t ++ [x]) } : CS).ls (2 * i + 1) = q := hls4.out
          rw [e] at this
          exact this
        have hdel := Lib.hid (del_any w4.drew B (.slice (some ⟨bq, oq, none⟩) q.length cq2) q j hown4 hj)
        have hltP4 := hAH3.out.procLt
        have f4 : w4.frozen? ⟨P, i * 2 + 1, none⟩ = false := hAH3.out.lv.frozen _
        have hne4 : Hid ((Value.slice (some ⟨bq, oq, none⟩) q.length cq2).ownBlock ≠ some P) := by
          obtain ⟨xs, hP, _⟩ := hAH3.out.lv.top
          exact owns_ne_row hown4 hP (by decide)
        have hnx4 : Hid ((Value.slice (some ⟨bq, oq, none⟩) q.length cq2).ownBlock ≠ some b2) := owns_ne_row hown4 hXH3.out.2 (by decide)
        have hD2 : ∀ b o, ¬ b = P → (⟨P, i * 2 + 1, none⟩ : Addr) ≠ ⟨b, o, none⟩ := fun b o h e => h (by injection e with e; exact e.symm)
        have hwr : IntKind.i64.wrap ((j : Int) + 1) = (j : Int) + 1 := by rw [IntKind.wrap_i64]; omega
        clear hown4
        refine wp_region_held_drew (S := (fun w' => w'.cell? ⟨b2, 0, none⟩ = some (.pointer (some ⟨P, i * 2, none⟩)))) (by kernel_rfl) ?_ (fun hHeld => ?_)
        · exact y2
        refine wpAnyH_take (i := 0) (v := ?_) rfl (by kernel_rfl) (by kernel_rfl) (by kernel_rfl) (fun _ _ _ h => h) (Or.inl ⟨by rfl, ?_⟩) (by assumption) ?_
        rotate_left
        · (intro w hSw; (try dsimp only at hSw); first | (go_simp; done) | (go_simp; with_reducible rfl))
        try simp only [Act.put, List.setIfInBounds_toArray, List.set_cons_zero, List.set_cons_succ]
        refine wpAnyH_take (i := 1) (v := ?_) rfl (by kernel_rfl) (by kernel_rfl) (by kernel_rfl) (fun _ _ _ h => h) (Or.inl ⟨by rfl, ?_⟩) (by assumption) ?_
        rotate_left
        · (intro w hSw; (try dsimp only at hSw); first | (go_simp; done) | (go_simp; with_reducible rfl))
        try simp only [Act.put, List.setIfInBounds_toArray, List.set_cons_zero, List.set_cons_succ]
        refine wpAnyH_take (i := 2) (v := ?_) rfl (by kernel_rfl) (by kernel_rfl) (by kernel_rfl) (fun _ _ _ h => h) (Or.inl ⟨by rfl, ?_⟩) (by assumption) ?_
        rotate_left
        · (intro w hSw; (try dsimp only at hSw); first | (go_simp; done) | (go_simp; with_reducible rfl))
        try simp only [Act.put, List.setIfInBounds_toArray, List.set_cons_zero, List.set_cons_succ]
        refine wpAnyH_take (i := 3) (v := ?_) rfl (by kernel_rfl) (by kernel_rfl) (by kernel_rfl) (fun _ _ _ h => h) (Or.inl ⟨by rfl, ?_⟩) (by assumption) ?_
        rotate_left
        · (intro w hSw; (try dsimp only at hSw); first | (go_simp; done) | (go_simp; with_reducible rfl))
        try simp only [Act.put, List.setIfInBounds_toArray, List.set_cons_zero, List.set_cons_succ]
        refine wpAnyH_take (i := 5) (v := ?_) rfl (by kernel_rfl) (by kernel_rfl) (by kernel_rfl) (fun _ _ _ h => h) (Or.inl ⟨by rfl, ?_⟩) (by assumption) ?_
        rotate_left
        · (intro w hSw; (try dsimp only at hSw); first | (go_simp; done) | (go_simp; with_reducible rfl))
        try simp only [Act.put, List.setIfInBounds_toArray, List.set_cons_zero, List.set_cons_succ]
        refine wpAnyH_take (i := 6) (v := ?_) rfl (by kernel_rfl) (by kernel_rfl) (by kernel_rfl) (fun _ _ _ h => h) (Or.inl ⟨by rfl, ?_⟩) (by assumption) ?_
        rotate_left
        · (intro w hSw; (try dsimp only at hSw); first | (go_simp; done) | (go_simp; with_reducible rfl))
        try simp only [Act.put, List.setIfInBounds_toArray, List.set_cons_zero, List.set_cons_succ]
        refine wpAnyH_take (i := 7) (v := ?_) rfl (by kernel_rfl) (by kernel_rfl) (by kernel_rfl) (fun _ _ _ h => h) (Or.inl ⟨by rfl, ?_⟩) (by assumption) ?_
        rotate_left
        · (intro w hSw; (try dsimp only at hSw); first | (go_simp; done) | (go_simp; with_reducible rfl))
        try simp only [Act.put, List.setIfInBounds_toArray, List.set_cons_zero, List.set_cons_succ]
        refine wpAnyH_ready (rs := [4]) (by kernel_rfl) (by simp) ?_
        refine AllReadyH.cons rfl (fun K hK => ?_) AllReadyH.nil
        go_simp
        refine hK.out _ _ ?_ (fun hHeld => ?_)
        · exact y2
        clear hK K
        try simp only [Act.put, List.setIfInBounds_toArray, List.set_cons_zero, List.set_cons_succ]
        refine wpAnyH_ready (rs := [8]) (by kernel_rfl) (by simp) ?_
        refine AllReadyH.cons rfl (fun K hK => ?_) AllReadyH.nil
        go_simp
        refine hdel.out.mono ?_
        rintro e w5 ⟨v5, rfl, hown5, hgr5, hat5⟩
        obtain ⟨A5, c5, rfl⟩ := hown5.shape
        generalize (q.take j ++ q.drop (j + 1)).length = l5 at *
        have y5 : w5.cell? ⟨b2, 0, none⟩ = some (.pointer (some ⟨P, i * 2, none⟩)) := hgr5.cell y2 (fun e => hnx4.out e.symm)
        have e5 : w5.cell? ⟨P, i * 2 + 1, none⟩ = some (.slice (some ⟨bq, oq, none⟩) q.length cq2) := hgr5.cell y1 (fun e => hne4.out e.symm)
        have f5 : w5.frozen? ⟨P, i * 2 + 1, none⟩ = false := (World.frozen?_of_block (hgr5.block P hltP4 (fun e => hne4.out e.symm))).trans f4
        have hk5 : ∀ v, (w5.setCell ⟨P, i * 2 + 1, none⟩ v).cell? ⟨b2, 0, none⟩ = some (.pointer (some ⟨P, i * 2, none⟩)) := fun v => (World.cell?_setCell_other _ _ _ _ (hD2 b2 0 hb2P)).trans y5
        refine hK.out _ _ ?_ (fun hHeld => ?_)
        · exact y5
        clear hK K
        try simp only [Act.put, List.setIfInBounds_toArray, List.set_cons_zero, List.set_cons_succ]
        refine wpAnyH_take (i := 9) (v := ?_) rfl (by kernel_rfl) (by kernel_rfl) (by kernel_rfl) (fun _ _ _ h => h) (Or.inl ⟨by rfl, ?_⟩) (by assumption) ?_
        rotate_left
        · (intro w hSw; (try dsimp only at hSw); first | (go_simp; done) | (go_simp; with_reducible rfl))
        try simp only [Act.put, List.setIfInBounds_toArray, List.set_cons_zero, List.set_cons_succ]
        refine wpAnyH_take (i := 10) (v := ?_) rfl (by kernel_rfl) (by kernel_rfl) (by kernel_rfl) (fun _ _ _ h => h) (Or.inl ⟨by rfl, ?_⟩) (by assumption) ?_
        rotate_left
        · (intro w hSw; (try dsimp only at hSw); first | (go_simp; done) | (go_simp; with_reducible rfl))
        try simp only [Act.put, List.setIfInBounds_toArray, List.set_cons_zero, List.set_cons_succ]
        refine wpAnyH_ready (rs := [11]) (by kernel_rfl) (by simp) ?_
        refine AllReadyH.cons rfl (fun K hK => ?_) AllReadyH.nil
        go_simp
        refine hK.out _ _ ?_ (fun hHeld => ?_)
        · exact hk5 _
        clear hK K
        try simp only [Act.put, List.setIfInBounds_toArray, List.set_cons_zero, List.set_cons_succ]
        refine wpAnyH_done (by kernel_rfl) ?_ _
        have hA6 := hAH3.out.putW (w' := w5) hi hown5 (by rw [hv4.out]; exact ⟨hgr5.os, hgr5.tape, hgr5.output, hgr5.size, hgr5.block⟩) (by rw [hv4.out]; exact hat5)
        have hBl6 := GrpAt.blPut hBlH3.out hAH3.out (j := 2 * i + 1) (k := i * 2 + 1) (w' := w5) (by omega) (by rw [hv4.out]; exact ⟨hgr5.os, hgr5.tape, hgr5.output, hgr5.size, hgr5.block⟩) (.slice A5 l5 c5)
        have hX6 := hXH3.out.bl (GrpAt.blPut (Bl.refl B w4) hAH3.out (j := 2 * i + 1) (k := i * 2 + 1) (w' := w5) (by omega) (by rw [hv4.out]; exact ⟨hgr5.os, hgr5.tape, hgr5.output, hgr5.size, hgr5.block⟩) (.slice A5 l5 c5))
        rw [CS.put_put] at hA6
        have hes2 : q.take j ++ q.drop (j + 1) = q.erase x := hes.out.symm
        have hsx : dstep S.bh t q = some x := hsomeH.out
        have hlx := List.length_erase_of_mem (dstep_some hsx).1
        have hrel6 : Hid (DlvRel w B gb n P b1 b2 i S L (q.erase x).length (w5.setCell ⟨P, i * 2 + 1, none⟩ (.slice A5 l5 c5))) := by
          obtain ⟨s, hs⟩ := hpreH.out
          refine ⟨t ++ [x], q.erase x, rfl, ?_, hBl6, hX6, (dlv_some hsx).symm.trans hdH.out, hpH.out.step hsx, ⟨s ++ [x], by rw [hs, List.append_assoc]⟩, ?_⟩
          · rw [← hes2]; exact ⟨_, _, hA6⟩
          · have := hlenH.out
            rw [List.length_append, List.length_singleton]; omega
        clear hA6 hBl6 hX6 hes2 hsx hk5 f5 e5 y5 hown5 hgr5 hat5
        go_wp2_with fail
        go_roundg (q.erase x).length
        case measure => rw [← hqkH.out, hlx]; omega
        case rel => exact hrel6.out
      · go_simp
        refine hK.out _ _ ?_ (fun hHeld => ?_)
        · exact ⟨a2, a1, a3⟩
        clear hK K
        try simp only [Act.put, List.setIfInBounds_toArray, List.set_cons_zero, List.set_cons_succ]
        refine wpAnyH_ready (rs := [4]) (by kernel_rfl) (by simp) ?_
        refine AllReadyH.cons rfl (fun K hK => ?_) AllReadyH.nil
        go_simp
        refine hK.out _ _ ?_ (fun hHeld => ?_)
        · exact hHeld
        clear hK K
        try simp only [Act.put, List.setIfInBounds_toArray, List.set_cons_zero, List.set_cons_succ]
        refine wpAnyH_ready (rs := [13]) (by kernel_rfl) (by simp) ?_
        refine AllReadyH.cons rfl (fun K hK => ?_) AllReadyH.nil
        refine step_append_lies _ (by rfl) _ _ _ (by rfl) B 3 j0 (.int .i64 0) 1 8 Try.underlying37 hJi.out hJz.out hJs.out hJb.out (by rfl) (by decide) (.slice At t.length ct) t.length (nv t) (by rfl) (hownH.out _ rfl) ⟨w2.heap.size, 0, none⟩ 1 1 [.int .i64 (x : Int)] (by rfl) (by rfl) (hnews.out _ rfl) (by simp [Value.oneCell']) (by omega) (by unfold maxLen; omega) (by omega) (by simp; omega) (w2.heap.size + 1) (by simp) ?_
        intro ga capa wa howna hgrowa hata hltga
        have hgr : (w2.alloc (.cells #[.int .i64 (x : Int)] 3)).grownBy wa (Value.slice At t.length ct).ownBlock := ⟨hgrowa.os, hgrowa.tape, hgrowa.output, hgrowa.size, hgrowa.block⟩
        have e0 : wa.cell? ⟨P, i * 2, none⟩ = some (.slice At t.length ct) := hgr.cell a0 (fun e => hneP.out e.symm)
        have ef : wa.frozen? ⟨P, i * 2, none⟩ = false := (World.frozen?_of_block (hgr.block P (by simp; omega) (fun e => hneP.out e.symm))).trans ((World.frozen?_of_block (Below.heap_alloc w2 _ P hltP)).trans f0)
        have e2 : wa.cell? ⟨b2, 0, none⟩ = some (.pointer (some ⟨P, i * 2, none⟩)) := hgr.cell a2 (fun e => hneX.out e.symm)
        have e1 : wa.cell? ⟨P, i * 2 + 1, none⟩ = some (.slice (some ⟨bq, oq, none⟩) q.length cq2) := hgr.cell a1 (fun e => hneP.out e.symm)
        have e3 : wa.cell? ⟨bq, oq + j, none⟩ = some (.int .i64 (x : Int)) := hgr.cell a3 (fun e => hneq.out e.symm)
        have hk : ∀ v, (wa.setCell ⟨P, i * 2, none⟩ v).cell? ⟨b2, 0, none⟩ = some (.pointer (some ⟨P, i * 2, none⟩)) ∧ (wa.setCell ⟨P, i * 2, none⟩ v).cell? ⟨P, i * 2 + 1, none⟩ = some (.slice (some ⟨bq, oq, none⟩) q.length cq2) ∧ (wa.setCell ⟨P, i * 2, none⟩ v).cell? ⟨bq, oq + j, none⟩ = some (.int .i64 (x : Int)) := fun v => ⟨(World.cell?_setCell_other _ _ _ _ (hD b2 0 hb2P)).trans e2, (World.cell?_setCell_other _ _ _ _ hE).trans e1, (World.cell?_setCell_other _ _ _ _ (hD bq (oq + j) hbqP)).trans e3⟩
        refine hK.out _ _ ?_ (fun hHeld => ?_)
        · exact ⟨e2, e1, e3⟩
        clear hK K
        try simp only [Act.put, List.setIfInBounds_toArray, List.set_cons_zero, List.set_cons_succ]
        refine wpAnyH_take (i := 14) (v := ?_) rfl (by kernel_rfl) (by kernel_rfl) (by kernel_rfl) (fun _ _ _ h => h) (Or.inl ⟨by rfl, ?_⟩) (by assumption) ?_
        rotate_left
        · (intro w hSw; (try dsimp only at hSw); first | (go_simp; done) | (go_simp; with_reducible rfl))
        try simp only [Act.put, List.setIfInBounds_toArray, List.set_cons_zero, List.set_cons_succ]
        refine wpAnyH_take (i := 15) (v := ?_) rfl (by kernel_rfl) (by kernel_rfl) (by kernel_rfl) (fun _ _ _ h => h) (Or.inl ⟨by rfl, ?_⟩) (by assumption) ?_
        rotate_left
        · (intro w hSw; (try dsimp only at hSw); first | (go_simp; done) | (go_simp; with_reducible rfl))
        try simp only [Act.put, List.setIfInBounds_toArray, List.set_cons_zero, List.set_cons_succ]
        refine wpAnyH_ready (rs := [16]) (by kernel_rfl) (by simp) ?_
        refine AllReadyH.cons rfl (fun K hK => ?_) AllReadyH.nil
        go_simp
        refine hK.out _ _ ?_ (fun hHeld => ?_)
        · exact hk _
        clear hK K
        try simp only [Act.put, List.setIfInBounds_toArray, List.set_cons_zero, List.set_cons_succ]
        refine wpAnyH_done (by kernel_rfl) ?_ _
        have hA3 : GrpAt (wa.setCell ⟨P, i * 2, none⟩ (.slice (some ⟨ga, 0, none⟩) (t.length + 1) capa)) B gb n P (vputV vs (2 * i) (.slice (some ⟨ga, 0, none⟩) (t.length + 1) capa)) vm { S.put i t q with ls := up1 (S.put i t q).ls (2 * i) (t ++ [x]) } :=
          (hA2.out.alloc (.cells #[.int .i64 (x : Int)] 3)).putT hi (OwnN.push howna) (by rw [hvtH.out]; exact hgr) (by rw [hvtH.out]; rcases hata with h | h; exact .inl h.symm; exact .inr ⟨ga, rfl, by simp; omega⟩)
        have hBl3 : Bl B w (wa.setCell ⟨P, i * 2, none⟩ (.slice (some ⟨ga, 0, none⟩) (t.length + 1) capa)) :=
          GrpAt.blPut (hBl2.out.alloc hsz2 (.cells #[.int .i64 (x : Int)] 3)) (hA2.out.alloc (.cells #[.int .i64 (x : Int)] 3)) (j := 2 * i) (by omega) (by rw [hvtH.out]; exact hgr) _
        have hX3 : Boxes (wa.setCell ⟨P, i * 2, none⟩ (.slice (some ⟨ga, 0, none⟩) (t.length + 1) capa)) b1 b2 gb ⟨P, i * 2, none⟩ :=
          hX2.out.bl (GrpAt.blPut ((Bl.refl B w2).alloc hsz2 (.cells #[.int .i64 (x : Int)] 3)) (hA2.out.alloc (.cells #[.int .i64 (x : Int)] 3)) (j := 2 * i) (by omega) (by rw [hvtH.out]; exact hgr) _)
        have hAH3 := Lib.hid hA3
        have hBlH3 := Lib.hid hBl3
        have hXH3 := Lib.hid hX3
        have k1 := hk (.slice (some ⟨ga, 0, none⟩) (t.length + 1) capa)
        obtain ⟨y2, y1, _⟩ := k1
        clear hA3 hBl3 hX3 hk e0 ef e1 e2 e3 hgr howna hgrowa hata hltga a0 a1 a2 a3 c0 c1 c2 x2 f0
        go_wp2_with fail
        generalize hw4 : wa.setCell ⟨P, i * 2, none⟩ (.slice (some ⟨ga, 0, none⟩) (t.length + 1) capa) = w4 at *
        clear hw4
        have hv4 : Hid (vputV vs (2 * i) (.slice (some ⟨ga, 0, none⟩) (t.length + 1) capa) (2 * i + 1) = .slice (some ⟨bq, oq, none⟩) q.length cq2) := by
          unfold Hid vputV
          rw [if_neg (by omega)]; exact hvq2H.out
        have hls4 : Hid (up1 (S.put i t q).ls (2 * i) (t ++ [x]) (2 * i + 1) = q) := (up1_other _ _ (by omega)).trans hwtH.out
        have hown4 : OwnN w4 B (.slice (some ⟨bq, oq, none⟩) q.length cq2) q := by
          have := hAH3.out.own (j := 2 * i + 1) (by omega)
          rw [hv4.out] at this
          rw [← hls4.out]
          rw [hls4.out]
          have e : ({ S.put i t q with ls := up1 (S.put i t q).ls (2 * i) (t ++ [x]) } : CS).ls (2 * i + 1) = q := hls4.out
          rw [e] at this
          exact this
        have hdel := Lib.hid (del_any w4.drew B (.slice (some ⟨bq, oq, none⟩) q.length cq2) q j hown4 hj)
        have hltP4 := hAH3.out.procLt
        have f4 : w4.frozen? ⟨P, i * 2 + 1, none⟩ = false := hAH3.out.lv.frozen _
        have hne4 : Hid ((Value.slice (some ⟨bq, oq, none⟩) q.length cq2).ownBlock ≠ some P) := by
          obtain ⟨xs, hP, _⟩ := hAH3.out.lv.top
          exact owns_ne_row hown4 hP (by decide)
        have hnx4 : Hid ((Value.slice (some ⟨bq, oq, none⟩) q.length cq2).ownBlock ≠ some b2) := owns_ne_row hown4 hXH3.out.2 (by decide)
        have hD2 : ∀ b o, ¬ b = P → (⟨P, i * 2 + 1, none⟩ : Addr) ≠ ⟨b, o, none⟩ := fun b o h e => h (by injection e with e; exact e.symm)
        have hwr : IntKind.i64.wrap ((j : Int) + 1) = (j : Int) + 1 := by rw [IntKind.wrap_i64]; omega
        clear hown4
        refine wp_region_held_drew (S := (fun w' => w'.cell? ⟨b2, 0, none⟩ = some (.pointer (some ⟨P, i * 2, none⟩)))) (by kernel_rfl) ?_ (fun hHeld => ?_)
        · exact y2
        refine wpAnyH_take (i := 0) (v := ?_) rfl (by kernel_rfl) (by kernel_rfl) (by kernel_rfl) (fun _ _ _ h => h) (Or.inl ⟨by rfl, ?_⟩) (by assumption) ?_
        rotate_left
        · (intro w hSw; (try dsimp only at hSw); first | (go_simp; done) | (go_simp; with_reducible rfl))
        try simp only [Act.put, List.setIfInBounds_toArray, List.set_cons_zero, List.set_cons_succ]
        refine wpAnyH_take (i := 1) (v := ?_) rfl (by kernel_rfl) (by kernel_rfl) (by kernel_rfl) (fun _ _ _ h => h) (Or.inl ⟨by rfl, ?_⟩) (by assumption) ?_
        rotate_left
        · (intro w hSw; (try dsimp only at hSw); first | (go_simp; done) | (go_simp; with_reducible rfl))
        try simp only [Act.put, List.setIfInBounds_toArray, List.set_cons_zero, List.set_cons_succ]
        refine wpAnyH_take (i := 2) (v := ?_) rfl (by kernel_rfl) (by kernel_rfl) (by kernel_rfl) (fun _ _ _ h => h) (Or.inl ⟨by rfl, ?_⟩) (by assumption) ?_
        rotate_left
        · (intro w hSw; (try dsimp only at hSw); first | (go_simp; done) | (go_simp; with_reducible rfl))
        try simp only [Act.put, List.setIfInBounds_toArray, List.set_cons_zero, List.set_cons_succ]
        refine wpAnyH_take (i := 3) (v := ?_) rfl (by kernel_rfl) (by kernel_rfl) (by kernel_rfl) (fun _ _ _ h => h) (Or.inl ⟨by rfl, ?_⟩) (by assumption) ?_
        rotate_left
        · (intro w hSw; (try dsimp only at hSw); first | (go_simp; done) | (go_simp; with_reducible rfl))
        try simp only [Act.put, List.setIfInBounds_toArray, List.set_cons_zero, List.set_cons_succ]
        refine wpAnyH_take (i := 5) (v := ?_) rfl (by kernel_rfl) (by kernel_rfl) (by kernel_rfl) (fun _ _ _ h => h) (Or.inl ⟨by rfl, ?_⟩) (by assumption) ?_
        rotate_left
        · (intro w hSw; (try dsimp only at hSw); first | (go_simp; done) | (go_simp; with_reducible rfl))
        try simp only [Act.put, List.setIfInBounds_toArray, List.set_cons_zero, List.set_cons_succ]
        refine wpAnyH_take (i := 6) (v := ?_) rfl (by kernel_rfl) (by kernel_rfl) (by kernel_rfl) (fun _ _ _ h => h) (Or.inl ⟨by rfl, ?_⟩) (by assumption) ?_
        rotate_left
        · (intro w hSw; (try dsimp only at hSw); first | (go_simp; done) | (go_simp; with_reducible rfl))
        try simp only [Act.put, List.setIfInBounds_toArray, List.set_cons_zero, List.set_cons_succ]
        refine wpAnyH_take (i := 7) (v := ?_) rfl (by kernel_rfl) (by kernel_rfl) (by kernel_rfl) (fun _ _ _ h => h) (Or.inl ⟨by rfl, ?_⟩) (by assumption) ?_
        rotate_left
        · (intro w hSw; (try dsimp only at hSw); first | (go_simp; done) | (go_simp; with_reducible rfl))
        try simp only [Act.put, List.setIfInBounds_toArray, List.set_cons_zero, List.set_cons_succ]
        refine wpAnyH_ready (rs := [4]) (by kernel_rfl) (by simp) ?_
        refine AllReadyH.cons rfl (fun K hK => ?_) AllReadyH.nil
        go_simp
        refine hK.out _ _ ?_ (fun hHeld => ?_)
        · exact y2
        clear hK K
        try simp only [Act.put, List.setIfInBounds_toArray, List.set_cons_zero, List.set_cons_succ]
        refine wpAnyH_ready (rs := [8]) (by kernel_rfl) (by simp) ?_
        refine AllReadyH.cons rfl (fun K hK => ?_) AllReadyH.nil
        go_simp
        refine hdel.out.mono ?_
        rintro e w5 ⟨v5, rfl, hown5, hgr5, hat5⟩
        obtain ⟨A5, c5, rfl⟩ := hown5.shape
        generalize (q.take j ++ q.drop (j + 1)).length = l5 at *
        have y5 : w5.cell? ⟨b2, 0, none⟩ = some (.pointer (some ⟨P, i * 2, none⟩)) := hgr5.cell y2 (fun e => hnx4.out e.symm)
        have e5 : w5.cell? ⟨P, i * 2 + 1, none⟩ = some (.slice (some ⟨bq, oq, none⟩) q.length cq2) := hgr5.cell y1 (fun e => hne4.out e.symm)
        have f5 : w5.frozen? ⟨P, i * 2 + 1, none⟩ = false := (World.frozen?_of_block (hgr5.block P hltP4 (fun e => hne4.out e.symm))).trans f4
        have hk5 : ∀ v, (w5.setCell ⟨P, i * 2 + 1, none⟩ v).cell? ⟨b2, 0, none⟩ = some (.pointer (some ⟨P, i * 2, none⟩)) := fun v => (World.cell?_setCell_other _ _ _ _ (hD2 b2 0 hb2P)).trans y5
        refine hK.out _ _ ?_ (fun hHeld => ?_)
        · exact y5
        clear hK K
        try simp only [Act.put, List.setIfInBounds_toArray, List.set_cons_zero, List.set_cons_succ]
        refine wpAnyH_take (i := 9) (v := ?_) rfl (by kernel_rfl) (by kernel_rfl) (by kernel_rfl) (fun _ _ _ h => h) (Or.inl ⟨by rfl, ?_⟩) (by assumption) ?_
        rotate_left
        · (intro w hSw; (try dsimp only at hSw); first | (go_simp; done) | (go_simp; with_reducible rfl))
        try simp only [Act.put, List.setIfInBounds_toArray, List.set_cons_zero, List.set_cons_succ]
        refine wpAnyH_take (i := 10) (v := ?_) rfl (by kernel_rfl) (by kernel_rfl) (by kernel_rfl) (fun _ _ _ h => h) (Or.inl ⟨by rfl, ?_⟩) (by assumption) ?_
        rotate_left
        · (intro w hSw; (try dsimp only at hSw); first | (go_simp; done) | (go_simp; with_reducible rfl))
        try simp only [Act.put, List.setIfInBounds_toArray, List.set_cons_zero, List.set_cons_succ]
        refine wpAnyH_ready (rs := [11]) (by kernel_rfl) (by simp) ?_
        refine AllReadyH.cons rfl (fun K hK => ?_) AllReadyH.nil
        go_simp
        refine hK.out _ _ ?_ (fun hHeld => ?_)
        · exact hk5 _
        clear hK K
        try simp only [Act.put, List.setIfInBounds_toArray, List.set_cons_zero, List.set_cons_succ]
        refine wpAnyH_done (by kernel_rfl) ?_ _
        have hA6 := hAH3.out.putW (w' := w5) hi hown5 (by rw [hv4.out]; exact ⟨hgr5.os, hgr5.tape, hgr5.output, hgr5.size, hgr5.block⟩) (by rw [hv4.out]; exact hat5)
        have hBl6 := GrpAt.blPut hBlH3.out hAH3.out (j := 2 * i + 1) (k := i * 2 + 1) (w' := w5) (by omega) (by rw [hv4.out]; exact ⟨hgr5.os, hgr5.tape, hgr5.output, hgr5.size, hgr5.block⟩) (.slice A5 l5 c5)
        have hX6 := hXH3.out.bl (GrpAt.blPut (Bl.refl B w4) hAH3.out (j := 2 * i + 1) (k := i * 2 + 1) (w' := w5) (by omega) (by rw [hv4.out]; exact ⟨hgr5.os, hgr5.tape, hgr5.output, hgr5.size, hgr5.block⟩) (.slice A5 l5 c5))
        rw [CS.put_put] at hA6
        have hes2 : q.take j ++ q.drop (j + 1) = q.erase x := hes.out.symm
        have hsx : dstep S.bh t q = some x := hsomeH.out
        have hlx := List.length_erase_of_mem (dstep_some hsx).1
        have hrel6 : Hid (DlvRel w B gb n P b1 b2 i S L (q.erase x).length (w5.setCell ⟨P, i * 2 + 1, none⟩ (.slice A5 l5 c5))) := by
          obtain ⟨s, hs⟩ := hpreH.out
          refine ⟨t ++ [x], q.erase x, rfl, ?_, hBl6, hX6, (dlv_some hsx).symm.trans hdH.out, hpH.out.step hsx, ⟨s ++ [x], by rw [hs, List.append_assoc]⟩, ?_⟩
          · rw [← hes2]; exact ⟨_, _, hA6⟩
          · have := hlenH.out
            rw [List.length_append, List.length_singleton]; omega
        clear hA6 hBl6 hX6 hes2 hsx hk5 f5 e5 y5 hown5 hgr5 hat5
        go_wp2_with fail
        go_roundg (q.erase x).length
        case measure => rw [← hqkH.out, hlx]; omega
        case rel => exact hrel6.out

#print axioms deliver_any
end Go.Proofs.Ytkchccaeopdemaa
