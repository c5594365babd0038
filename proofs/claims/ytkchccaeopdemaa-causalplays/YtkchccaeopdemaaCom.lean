/-
  The contract of (*group).come of package causal.
-/
import Derived.Test.YtkchccaeopdemaaTel
namespace Go.Proofs.Ytkchccaeopdemaa
open Go.RowKit Go.Maps Go.Deep

def ComRes (B gb n P : Nat) (w : World) (T : CS) (c : Int) (e : Ending) (w' : World) : Prop := e = .returned (.int .i64 c) ∧ Grp w' B gb n P T ∧ Bl B w w'

set_option maxHeartbeats 1600000 in
set_option maxRecDepth 100000 in
theorem come_range (w : World) (B gb n P : Nat) (S : CS) (hS : Grp w B gb n P S) (i : Nat) (v : Int) (h : v < 0 ∨ (S.m : Int) ≤ v) :
    Calls Try.prog 22 #[.pointer (some ⟨gb, 0, none⟩), .int .i64 v, .int .i64 (i : Int)] w (ComRes B gb n P w S 4) := by
  obtain ⟨vs, vm, hA⟩ := hS
  obtain ⟨Am, cm, hvm, hm1, hm2⟩ := hA.msgLen
  obtain ⟨g0, g1⟩ := hA.cells
  subst hvm
  have hAH := Lib.hid hA
  clear hA
  by_cases h0 : v < 0
  · clear h
    go_enter Try.func22, Try.ntmps22
    go_wp2_with fail
    go_ret
    exact ⟨rfl, ⟨_, _, hAH.out⟩, Bl.refl _ _⟩
  · have h1 : (S.m : Int) ≤ v := by omega
    clear h
    go_enter Try.func22, Try.ntmps22
    go_wp2_with fail
    go_ret
    exact ⟨rfl, ⟨_, _, hAH.out⟩, Bl.refl _ _⟩

set_option maxHeartbeats 4000000 in
set_option maxRecDepth 100000 in
theorem come_held (w : World) (B gb n P : Nat) (S : CS) (hS : Grp w B gb n P S) (hI : CI0 n S) (i v : Nat) (hi : i < n) (hv : v < S.m) (hl : ∀ j, (S.ls j).length ≤ 300) (h : v ∈ S.wt i ∨ v ∈ S.td i) :
    Calls Try.prog 22 #[.pointer (some ⟨gb, 0, none⟩), .int .i64 (v : Int), .int .i64 (i : Int)] w (ComRes B gb n P w S 7) := by
  obtain ⟨vs, vm, hA⟩ := hS
  have hsz := hA.sz
  obtain ⟨Am, cm, hvm, hm1, hm2⟩ := hA.msgLen
  obtain ⟨g0, g1⟩ := hA.cells
  subst hvm
  obtain ⟨At, ct, hvt, ht1, ht2, hNt⟩ := hA.nums (j := 2 * i) (by omega)
  obtain ⟨Aq, cq, hvq, hq1, hq2, hNq⟩ := hA.nums (j := 2 * i + 1) (by omega)
  obtain ⟨c0, c1⟩ := hA.proc hi
  have hown := hA.own (j := 2 * i + 1) (by omega)
  rw [hvt] at c0
  rw [hvq] at c1 hown
  have hltP := hA.procLt
  have hvI : (v : Int) < (S.m : Int) := by omega
  have hiI : (i : Int) < (n : Int) := by omega
  obtain ⟨C, hC⟩ : ∃ C : Bool, Hid (C = true ↔ v ∈ S.ls (2 * i + 1)) := by
    classical
    exact ⟨decide (v ∈ S.ls (2 * i + 1)), (by simp : decide (v ∈ S.ls (2 * i + 1)) = true ↔ v ∈ S.ls (2 * i + 1))⟩
  have hbs := Lib.hid (bs_any w B _ (S.ls (2 * i + 1)) v hown (by have := hl (2 * i + 1); omega) (hI.pi i).so C hC.out)
  have hAH := Lib.hid hA
  have hNtH := Lib.hid hNt
  have hl2 : (S.ls (2 * i)).length ≤ 1000 := by have := hl (2 * i); omega
  have hin : Hid (C = false → v ∈ S.ls (2 * i)) := fun e => by
    rcases h with h | h
    · have := hC.out.2 h; rw [e] at this; cases this
    · exact h
  clear hA hI hl hNt hNq hown h hvt hvq hC
  generalize S.ls (2 * i) = t at *
  generalize S.ls (2 * i + 1) = q at *
  generalize q.countP (· < v) = cn at *
  go_enter Try.func22, Try.ntmps22
  go_wp2_with fail
  refine hbs.out.mono ?_
  rintro e w2 ⟨rfl, hB2⟩
  have hA2 := Lib.hid (hAH.out.below hB2)
  have hBl2 := Lib.hid ((Bl.refl B w).below hB2 hsz)
  have x0 : w2.cell? ⟨P, i * 2, none⟩ = some (.slice At t.length ct) := (hB2.cell (p := ⟨P, i * 2, none⟩) hltP).trans c0
  have hN2 := Lib.hid ((hNtH.out.below hB2).more hB2.size)
  clear hbs hNtH hB2 c0 c1 g0 g1 hAH
  cases C with
  | true =>
    go_wp2_with fail
    go_ret
    exact ⟨rfl, ⟨_, _, hA2.out⟩, hBl2.out⟩
  | false =>
    have hcc := Lib.hid (contains_any At ct (zs t) (v : Int) w2 hN2.out (by rw [zs_len]; exact hl2) true (by rw [zs_mem]; simp [hin.out rfl]))
    rw [zs_len] at hcc
    clear hin hN2
    go_wp2_with fail
    refine hcc.out.mono ?_
    rintro e w3 ⟨rfl, rfl⟩
    go_wp2_with fail
    go_ret
    exact ⟨rfl, ⟨_, _, hA2.out⟩, hBl2.out⟩

set_option maxHeartbeats 4000000 in
set_option maxRecDepth 100000 in
theorem come_new (w : World) (B gb n P : Nat) (S : CS) (hS : Grp w B gb n P S) (hI : CI0 n S) (i v : Nat) (hi : i < n) (hn : n ≤ 6) (hv : v < S.m) (hl : ∀ j, (S.ls j).length ≤ 300) (hm : S.m ≤ 1000) (h1 : v ∉ S.wt i) (h2 : v ∉ S.td i) :
    Calls Try.prog 22 #[.pointer (some ⟨gb, 0, none⟩), .int .i64 (v : Int), .int .i64 (i : Int)] w (ComRes B gb n P w (S.come v i) 0) := by
  obtain ⟨vs, vm, hA⟩ := hS
  have hsz := hA.sz
  obtain ⟨Am, cm, hvm, hm1, hm2⟩ := hA.msgLen
  obtain ⟨g0, g1⟩ := hA.cells
  subst hvm
  obtain ⟨At, ct, hvt, ht1, ht2, hNt⟩ := hA.nums (j := 2 * i) (by omega)
  obtain ⟨Aq, cq, hvq, hq1, hq2, _⟩ := hA.nums (j := 2 * i + 1) (by omega)
  obtain ⟨c0, c1⟩ := hA.proc hi
  have hown := hA.own (j := 2 * i + 1) (by omega)
  rw [hvt] at c0
  rw [hvq] at c1 hown
  have hltP := hA.procLt
  have hvI : (v : Int) < (S.m : Int) := by omega
  have hiI : (i : Int) < (n : Int) := by omega
  have hq3 : (S.ls (2 * i + 1)).length ≤ 300 := hl _
  have hbs := Lib.hid (bs_any w B _ (S.ls (2 * i + 1)) v hown (by omega) (hI.pi i).so false (by simp; exact h1))
  have hAH := Lib.hid hA
  have hNtH := Lib.hid hNt
  have hl2 : (S.ls (2 * i)).length ≤ 1000 := by have := hl (2 * i); omega
  have hp2 := (hI.pi i).ins hv h1 h2
  have hins := ins_eq (v := v) (hI.pi i).so
  have hS2 : S.put i (S.td i) (ins v (S.wt i)) = { S with ls := up1 S.ls (2 * i + 1) (ins v (S.wt i)) } := by
    unfold CS.put CS.td
    have : up1 S.ls (2 * i) (S.ls (2 * i)) = S.ls := by
      funext x
      unfold up1
      split
      · next h => rw [h]
      · rfl
    rw [this]
  have hI2 : CI0 n { S with ls := up1 S.ls (2 * i + 1) (ins v (S.wt i)) } := by
    rw [← hS2]
    exact hI.put ⟨[], by simp⟩ hp2
  have hls2 : ∀ j, (({ S with ls := up1 S.ls (2 * i + 1) (ins v (S.wt i)) } : CS).ls j).length ≤ 400 := fun j => by
    show (up1 S.ls (2 * i + 1) (ins v (S.wt i)) j).length ≤ 400
    unfold up1
    split
    · rw [ins_len]; unfold CS.wt; omega
    · have := hl j; omega
  have hres : Hid (({ S with ls := up1 S.ls (2 * i + 1) (ins v (S.wt i)) } : CS).put i (dlv S.bh (S.td i) (ins v (S.wt i))).1 (dlv S.bh (S.td i) (ins v (S.wt i))).2 = S.come v i) := by
    unfold Hid
    rw [← hS2]
    unfold CS.come CS.put
    have : ∀ t q, up1 (up1 (up1 (up1 S.ls (2 * i) (S.td i)) (2 * i + 1) (ins v (S.wt i))) (2 * i) t) (2 * i + 1) q = up1 (up1 S.ls (2 * i) t) (2 * i + 1) q := fun t q => by
      funext x
      unfold up1
      split
      · rfl
      · split <;> rfl
    simp only [this]
  have htd2 : Hid (({ S with ls := up1 S.ls (2 * i + 1) (ins v (S.wt i)) } : CS).td i = S.td i) := up1_other _ _ (by omega)
  have hwt2 : Hid (({ S with ls := up1 S.ls (2 * i + 1) (ins v (S.wt i)) } : CS).wt i = ins v (S.wt i)) := up1_same _ _ _
  have hdel : Hid (∀ w', Grp w' B gb n P { S with ls := up1 S.ls (2 * i + 1) (ins v (S.wt i)) } → Calls Try.prog 26 #[.pointer (some ⟨gb, 0, none⟩), .pointer (some ⟨P, i * 2, none⟩)] w' fun e w2 => e = .returned (.tuple #[]) ∧ Grp w2 B gb n P (S.come v i) ∧ Bl B w' w2) := fun w' hG => by
    have := deliver_any w' B gb n P _ hG hI2 i hi hls2 hn hm
    rw [htd2.out, hwt2.out] at this
    rw [← hres.out]
    exact this
  clear hls2 hI2 hres htd2 hwt2 hp2 hS2
  have hinsH : Hid (ins v (S.wt i) = (S.ls (2 * i + 1)).take ((S.ls (2 * i + 1)).countP (· < v)) ++ v :: (S.ls (2 * i + 1)).drop ((S.ls (2 * i + 1)).countP (· < v))) := hins
  have hcn : (S.ls (2 * i + 1)).countP (· < v) ≤ (S.ls (2 * i + 1)).length := List.countP_le_length
  have hvqH := Lib.hid hvq
  have h2H : Hid (¬ v ∈ S.ls (2 * i)) := h2
  clear hA hI hl hNt hown h1 h2 hvt hvq hins
  generalize hq : S.ls (2 * i + 1) = q at *
  have hqH := Lib.hid hq
  clear hq
  generalize S.ls (2 * i) = t at *
  generalize q.countP (· < v) = cn at *
  go_enter Try.func22, Try.ntmps22
  go_wp2_with fail
  refine hbs.out.mono ?_
  rintro e w2 ⟨rfl, hB2⟩
  have hA2 := Lib.hid (hAH.out.below hB2)
  have hBl2 := Lib.hid ((Bl.refl B w).below hB2 hsz)
  have x0 : w2.cell? ⟨P, i * 2, none⟩ = some (.slice At t.length ct) := (hB2.cell (p := ⟨P, i * 2, none⟩) hltP).trans c0
  have x1 : w2.cell? ⟨P, i * 2 + 1, none⟩ = some (.slice Aq q.length cq) := (hB2.cell (p := ⟨P, i * 2 + 1, none⟩) hltP).trans c1
  have hN2 := Lib.hid ((hNtH.out.below hB2).more hB2.size)
  clear hbs hNtH hB2 c0 c1 g0 g1 hAH
  have hcc := Lib.hid (contains_any At ct (zs t) (v : Int) w2 hN2.out (by rw [zs_len]; exact hl2) false (by rw [zs_mem]; simp; exact h2H.out))
  rw [zs_len] at hcc
  clear h2H hN2
  go_wp2_with fail
  refine hcc.out.mono ?_
  rintro e w3 ⟨rfl, rfl⟩
  clear hcc
  have hsz2 := hA2.out.sz
  have hltP2 := hA2.out.procLt
  have hA3 := Lib.hid (hA2.out.alloc (.cells #[.int .i64 (v : Int)] 3))
  have hBl3 := Lib.hid (hBl2.out.alloc hsz2 (.cells #[.int .i64 (v : Int)] 3))
  have hown3 : OwnN (w2.alloc (.cells #[.int .i64 (v : Int)] 3)) B (.slice Aq q.length cq) q := by
    have := hA3.out.own (j := 2 * i + 1) (by omega)
    rw [hvqH.out, hqH.out] at this
    exact this
  have hinc := Lib.hid (insert_any (w2.alloc (.cells #[.int .i64 (v : Int)] 3)) B (.slice Aq q.length cq) q v cn w2.heap.size hown3 (by simp; omega) (by omega) hcn (heap_alloc_new w2 _) (fun e => by
    have h9 := hA2.out.own (j := 2 * i + 1) (by omega)
    rw [hvqH.out] at h9
    have := (World.ownsRow.lt h9 _ e).2
    omega))
  have y1 := cell_allocV (.cells #[.int .i64 (v : Int)] 3) x1 hltP2
  have f1 : (w2.alloc (.cells #[.int .i64 (v : Int)] 3)).frozen? ⟨P, i * 2 + 1, none⟩ = false := hA3.out.lv.frozen _
  have hneP : Hid ((Value.slice Aq q.length cq).ownBlock ≠ some P) := by
    obtain ⟨xs, hP, _⟩ := hA3.out.lv.top
    exact owns_ne_row hown3 hP (by decide)
  have hltP3 := hA3.out.procLt
  clear hown3 hBl2 hA2
  go_wp2_with fail
  refine hinc.out.mono ?_
  rintro e w4 ⟨v4, rfl, hown4, hgr4, hat4⟩
  obtain ⟨A4, c4, rfl⟩ := hown4.shape
  have e4 : w4.cell? ⟨P, i * 2 + 1, none⟩ = some (.slice Aq q.length cq) := hgr4.cell y1 (fun e => hneP.out e.symm)
  have f4 : w4.frozen? ⟨P, i * 2 + 1, none⟩ = false := (World.frozen?_of_block (hgr4.block P hltP3 (fun e => hneP.out e.symm))).trans f1
  generalize hl4 : (q.take cn ++ v :: q.drop cn).length = l4 at *
  have hA5 := Lib.hid (hA3.out.putW (w' := w4) hi hown4 (by rw [hvqH.out]; exact hgr4) (by rw [hvqH.out]; exact hat4))
  have hBl5 := Lib.hid (GrpAt.blPut hBl3.out hA3.out (j := 2 * i + 1) (k := i * 2 + 1) (w' := w4) (by omega) (by rw [hvqH.out]; exact hgr4) (.slice A4 l4 c4))
  clear hinc y1 f1 hA3 hBl3 hown4 hgr4 hat4 hl4
  go_wp2_with fail
  generalize w4.setCell ⟨P, i * 2 + 1, none⟩ (.slice A4 l4 c4) = w5 at *
  refine (hdel.out w5 (by rw [hinsH.out]; exact ⟨_, _, hA5.out⟩)).mono ?_
  rintro e w6 ⟨rfl, hG6, hB6⟩
  go_wp2_with fail
  go_ret
  exact ⟨rfl, hG6, hBl5.out.trans hB6⟩

#print axioms come_held
#print axioms come_new
end Go.Proofs.Ytkchccaeopdemaa
