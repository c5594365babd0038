/-
  The contracts of quiet.start and quiet.Play.
-/
import Derived.Test.YtichcahlokjblaaQex
import Derived.Test.YtichcahlokjblaaQww
import Derived.Test.YtichcahlokjblaaCoq
import Derived.Laws.ResultCell
import Derived.Maps.OwnOps
namespace Go.Proofs.Ytichcahlokjblaa
open Go.RowKit Go.Maps
set_option linter.unusedVariables false

theorem infoPrq : (Try.prog.info? 56).map (fun i => (i.zero, i.size, i.bytes)) = some (some (.agg #[.bool false, .bool false, .int .i64 0, .int .i64 0]), 4, 24) := by kernel_rfl
theorem madeq_at {n i c : Nat} (hi : i < n) (hc : c < 4) : (madeCells #[.bool false, .bool false, .int .i64 0, .int .i64 0] (n * 4)).toList[i * 4 + c]? = #[Value.bool false, .bool false, .int .i64 0, .int .i64 0].toList[c]? := by
  have h : i * 4 + c < n * 4 := by omega
  unfold madeCells
  rw [Array.toList_map, List.getElem?_map, Array.toList_range, List.getElem?_range h]
  have h2 : (i * 4 + c) % 4 = c := by omega
  simp only [Option.map_some]
  show some (#[Value.bool false, .bool false, .int .i64 0, .int .i64 0][(i * 4 + c) % 4]!) = _
  rw [h2]
  have : c = 0 ∨ c = 1 ∨ c = 2 ∨ c = 3 := by omega
  rcases this with rfl | rfl | rfl | rfl <;> rfl
theorem wpList_make_prq (w : World) {ops : Array Oper} {rest : List Oper} {o : Oper} {a : Act} {Q : Exit → Act → World → Prop}
    (hg : o.guard = none) (l c : Operand) (hop : o.op = Op.makeSlice 51 l c) (n : Nat) (hn : n ≤ 6) (hl : a.eval l = .int .i64 (n : Int)) (hc : a.eval c = .int .i64 (n : Int))
    (hK : ∀ w', PrcQ w' w.heap.size n (fun _ => false) (fun _ => false) (fun _ => 0) (fun _ => 0) → w.grownBy w' none → wpList Try.prog ops Q rest (a.put o.dst (.slice (some ⟨w.heap.size, 0, none⟩) n n)) w') :
    wpList Try.prog ops Q (o :: rest) a w := by
  obtain ⟨i0, hi0, hz0, hz1, hz2⟩ := info_parts infoPrq
  refine wpList_make_full w hg l c _ hop w.heap.size 56 i0 _ 4 Try.underlying51 hi0 hz0 hz1 .i64 .i64 _ _ n hl hc rfl rfl (by rw [hz2]; omega) (by unfold maxLen; omega) (Nat.le_refl _) ?_
  intro w' hown hgrow
  rcases hown.2 with ⟨h', _⟩ | ⟨g', cap', cur, h', _, hb, _, _, hcs, htake⟩
  · simp at h'
  · simp only [Value.slice.injEq, Option.some.injEq, Addr.mk.injEq, and_true, true_and] at h'
    obtain ⟨rfl, rfl⟩ := h'
    rw [List.take_of_length_le (by rw [Array.length_toList, hcs]; exact Nat.le_refl _)] at htake
    refine hK w' ⟨cur.toList, by unfold Row; rw [hb], by rw [Array.length_toList]; exact hcs, fun i hi => ?_⟩ hgrow
    rw [htake]
    refine ⟨?_, ?_, ?_, ?_⟩
    · have := madeq_at hi (c := 0) (by omega)
      simpa [Value.cells] using this
    · have := madeq_at hi (c := 1) (by omega)
      simpa [Value.cells] using this
    · have := madeq_at hi (c := 2) (by omega)
      simpa [Value.cells] using this
    · have := madeq_at hi (c := 3) (by omega)
      simpa [Value.cells] using this
theorem begin_exp (n a : Nat) : QS.begin.exp n a = 0 := (QS.exp_zero _ _ _).2 fun j _ => ⟨rfl, by
  cases h : QS.begin.kid a j with
  | false => rfl
  | true =>
    obtain ⟨h1, h2, _⟩ := (QS.kid_iff _ _ _).1 h
    exact absurd (by simpa [QS.begin] using h2) h1⟩

def StqRes (w : World) (n : Nat) (e : Ending) (w' : World) : Prop := ∃ s P M, e = .returned (.pointer (some ⟨s, 0, none⟩)) ∧ SysQ w' w.heap.size s P M n 0 QS.begin (QS.begin.exp n) ∧ Below w.heap.size w w'

set_option maxHeartbeats 1600000 in
theorem start_any (w : World) (n : Nat) (hn : n ≤ 6) (h0 : 0 < n) : Calls Try.prog 11 #[.int .i64 (n : Int)] w (StqRes w n) := by
  have hmm := @run_makeMap Try.prog
  have hnI : (0 : Int) < (n : Int) := by omega
  go_enter Try.func11, Try.ntmps11
  go_wp2_with (first
    | (at_make; refine wpList_make_prq _ rfl _ _ rfl n hn rfl rfl ?_; intro w1 hP1 hG1
       have hsz1 := hG1.size
       have hB1 : Below w.heap.size w w1 := (Below.refl w.heap.size w).grown hG1 (Nat.le_refl _) (by simp)
       have hM2 := MapC.made w1
       have hP2 := hP1.block (w' := w1.alloc (.map #[] 0)) (Below.heap_alloc w1 _ _ hP1.lt)
       have hP3 := hP2.block (w' := (w1.alloc (.map #[] 0)).alloc (.cells #[.slice (some ⟨w.heap.size, 0, none⟩) n n, .map (some w1.heap.size)] 54)) (Below.heap_alloc _ _ _ hP2.lt)
       have hM3 := hM2.alloc (.cells #[.slice (some ⟨w.heap.size, 0, none⟩) n n, .map (some w1.heap.size)] 54)
       have hR3 := Row.made (w1.alloc (.map #[] 0)) 54 [.slice (some ⟨w.heap.size, 0, none⟩) n n, .map (some w1.heap.size)]
       have hB3 := (hB1.alloc hsz1 (.map #[] 0)).alloc (by simp; omega) (.cells #[.slice (some ⟨w.heap.size, 0, none⟩) n n, .map (some w1.heap.size)] 54)
       have hz3 : (w1.alloc (.map #[] 0)).heap.size = w1.heap.size + 1 := (by simp)
       have hS3 : SysQ ((w1.alloc (.map #[] 0)).alloc (.cells #[.slice (some ⟨w.heap.size, 0, none⟩) n n, .map (some w1.heap.size)] 54)) w.heap.size (w1.alloc (.map #[] 0)).heap.size w.heap.size w1.heap.size n 0 ⟨fun _ => false, fun _ => false, fun _ => 0, fun _ _ => 0⟩ (fun _ => 0) :=
         ⟨hR3, hP3, ⟨_, hM3, fun _ _ _ _ => rfl, fun _ _ _ h => (by cases h)⟩, (by omega), Nat.le_refl _, hsz1⟩
       rw [hz3] at hS3
       obtain ⟨s0, s1⟩ := hS3.cells
       obtain ⟨p0, p1, p2, p3⟩ := hS3.prs.cells h0
       have pf0 := hS3.prs.frozen (0 * 4)
       have pf1 := hS3.prs.frozen (0 * 4 + 1)
       simp only [Nat.zero_mul, Nat.zero_add] at p0 p1 p2 p3 pf0 pf1
       have hS4 := hS3.setAct h0 true
       obtain ⟨t0, t1⟩ := hS4.cells
       obtain ⟨q0, q1, q2, q3⟩ := hS4.prs.cells h0
       simp only [Nat.zero_mul, Nat.zero_add] at t0 t1 q0 q1 q2 q3
       have hS5 := Lib.hid (hS4.setEng h0 true)
       have hB5 := Lib.hid ((hB3.setCell (p := ⟨w.heap.size, 0 * 4, none⟩) (Nat.le_refl _) (.bool true)).setCell (p := ⟨w.heap.size, 0 * 4 + 1, none⟩) (Nat.le_refl _) (.bool true))
       clear hP1 hG1 hB1 hM2 hP2 hP3 hM3 hR3 hB3 hsz1 hS3 hS4))
  go_ret
  have hS6 := hS5.out
  have hB6 := hB5.out
  simp only [Nat.zero_mul, Nat.zero_add] at hS6 hB6
  refine ⟨_, _, _, rfl, ⟨hS6.sys, hS6.prs.congr (fun i _ => ?_) (fun i _ => ?_) (fun _ _ => rfl) (fun i _ => begin_exp n i), hS6.map, hS6.lowS, hS6.lowP, hS6.lowM⟩, hB6⟩
  · show decide (i = 0) = up1 (fun _ => false) 0 true i
    by_cases e : i = 0
    · rw [e, up1_same]; rfl
    · rw [up1_other _ _ e]; simp [e]
  · show decide (i = 0) = up1 (fun _ => false) 0 true i
    by_cases e : i = 0
    · rw [e, up1_same]; rfl
    · rw [up1_other _ _ e]; simp [e]


def doneB (n : Nat) (S : QS) : Bool := !S.act 0 && decide (S.exp n 0 = 0)
theorem doneB_iff (n : Nat) (S : QS) : doneB n S = true ↔ (S.act 0 = false ∧ S.exp n 0 = 0) := by
  unfold doneB
  simp
def qtVal (gc len : Nat) (D : Bool) (W : Nat) (y : Int) : Value := .agg #[.slice (some ⟨gc, 0, none⟩) len len, .bool D, .int .u32 (W : Int), .int .i64 y]
/-- What Play returns. -/
def PlqRes (w : World) (n : Nat) (l : List Mv) (e : Ending) (w' : World) : Prop :=
  ∃ gc, e = .returned (.tuple #[qtVal gc l.length (doneB n (qAt n l l.length)) (wordB n (qAt n l l.length).act) (wayS n (qAt n l l.length)), .int .i64 0]) ∧ CodRow w' gc l.length (codeQ n l) ∧ w.heap.size ≤ gc ∧ Below w.heap.size w w'

set_option maxHeartbeats 800000 in
theorem play_no (A : Option Addr) (cap : Nat) (l : List Mv) (n : Int) (w : World) (hl : l.length ≤ maxLen) (h : ¬ Plays n l.length) :
    Calls Try.prog 6 #[.int .i64 n, .slice A l.length cap] w fun e w' => e = .returned (.tuple #[.agg #[.slice none 0 0, .bool false, .int .u32 0, .int .i64 0], .int .i64 1]) ∧ Below w.heap.size w w' := by
  have hB1 := (Below.refl w.heap.size w).alloc (Nat.le_refl _) (.cells #[.slice none 0 0, .bool false, .int .u32 0, .int .i64 0] 26)
  have hh : n < 1 ∨ 6 < n ∨ 60 < (l.length : Int) := by
    unfold Plays at h
    omega
  clear h
  have hl2 : (l.length : Int) ≤ 9223372036854775807 := by unfold maxLen at hl; omega
  by_cases h1 : n < 1
  · go_enter Try.func6, Try.ntmps6
    go_wp2_with fail
    (try simp only [Exit.inBlock, Exit.then])
    refine bodyPost_ret (v := .tuple #[.agg #[.slice none 0 0, .bool false, .int .u32 0, .int .i64 0], .int .i64 1]) ?_ rfl ⟨rfl, hB1⟩
    rw [results_cell_tmp rfl]
    go_simp
  · by_cases h2 : 6 < n
    · go_enter Try.func6, Try.ntmps6
      go_wp2_with fail
      (try simp only [Exit.inBlock, Exit.then])
      refine bodyPost_ret (v := .tuple #[.agg #[.slice none 0 0, .bool false, .int .u32 0, .int .i64 0], .int .i64 1]) ?_ rfl ⟨rfl, hB1⟩
      rw [results_cell_tmp rfl]
      go_simp
    · have h3 : 60 < (l.length : Int) := by omega
      go_enter Try.func6, Try.ntmps6
      go_wp2_with fail
      (try simp only [Exit.inBlock, Exit.then])
      refine bodyPost_ret (v := .tuple #[.agg #[.slice none 0 0, .bool false, .int .u32 0, .int .i64 0], .int .i64 1]) ?_ rfl ⟨rfl, hB1⟩
      rw [results_cell_tmp rfl]
      go_simp

def PlqRel (w1 : World) (B s n P M : Nat) (l : List Mv) (gc k : Nat) (wr : World) : Prop :=
  SysQ wr B s P M n k (qAt n l k) ((qAt n l k).exp n) ∧ CodRow wr gc l.length (fun i => if i < k then codeQ n l i else 0) ∧ Below B w1 wr

set_option maxHeartbeats 8000000 in
set_option maxRecDepth 100000 in
theorem play_ok (A : Option Addr) (cap : Nat) (l : List Mv) (n : Nat) (w : World) (hE : Mvs w w.heap.size A l) (hF : MFits l) (h : Plays (n : Int) l.length) :
    Calls Try.prog 6 #[.int .i64 (n : Int), .slice A l.length cap] w (PlqRes w n l) := by
  obtain ⟨h1, h2, h3⟩ := h
  have hn : n ≤ 6 := by omega
  have hn0 : 0 < n := by omega
  have hl60 : (l.length : Int) ≤ 60 := by omega
  have hB1 := (Below.refl w.heap.size w).alloc (Nat.le_refl _) (.cells #[.slice none 0 0, .bool false, .int .u32 0, .int .i64 0] 26)
  have hR1 := Row.made w 26 [.slice none 0 0, .bool false, .int .u32 0, .int .i64 0]
  have hE1 := hE.below hB1
  have hsz1 : (w.alloc (.cells #[.slice none 0 0, .bool false, .int .u32 0, .int .i64 0] 26)).heap.size = w.heap.size + 1 := by simp
  obtain ⟨j0, hi0, hz0, hz1, hz2⟩ := info_parts infoErr
  have hJi := Lib.hid hi0; have hJz := Lib.hid hz0; have hJs := Lib.hid hz1
  have b2 : j0.bytes * l.length ≤ 281474976710656 := by rw [hz2]; omega
  have hFH := Lib.hid hF
  have hEH := Lib.hid hE1
  clear hi0 hz0 hz1 hz2 hF hE hE1
  go_enter Try.func6, Try.ntmps6
  go_wp2_with fail
  refine (start_any _ n hn hn0).mono ?_
  rintro e w2 ⟨s, P, M, rfl, hS2, hB2⟩
  generalize hw1 : w.alloc (.cells #[.slice none 0 0, .bool false, .int .u32 0, .int .i64 0] 26) = w1 at *
  clear hw1
  generalize hBB : w1.heap.size = B at *
  have hszB2 := hB2.size
  rw [hBB] at hszB2
  have hS2H := Lib.hid hS2
  have hBBH := Lib.hid hBB
  clear hBB hS2
  go_wp2_with (first
    | (at_make; refine wpList_make_row _ rfl _ _ 23 rfl 27 j0 (.int .i64 0) Try.underlying23 hJi.out hJz.out hJs.out rfl .i64 .i64 _ _ l.length rfl rfl rfl rfl b2 (by unfold maxLen; omega) ?_; intro w3 hR3 hG3
       have hrel3 : PlqRel w1 B s n P M l w2.heap.size 0 w3 := (by
         refine ⟨hS2H.out.blocks fun g _ hg => hG3.block g hg (by simp), ?_, hB2.grown hG3 (by omega) (by simp)⟩
         rw [intRow_zero] at hR3
         exact CodRow.congr hR3 (fun j _ => by simp))
       clear hR3 hG3 hB2 hS2H))
  have hlowG : Hid (B ≤ w2.heap.size) := hszB2
  generalize w2.heap.size = gc at *
  go_loopw [29] (fun t wr => ∃ k : Nat, k ≤ l.length ∧ t = .int .i64 k ∧ PlqRel w1 B s n P M l gc k wr) (fun t _ => l.length - (intOf t).toNat)
  case atStart => exact ⟨0, Nat.zero_le _, rfl, hrel3⟩
  case round =>
    clear hrel3
    obtain ⟨k, hk, rfl, hS, hC, hB⟩ := hrel
    have hszr : B ≤ wr.heap.size := by have := hB.size; rw [hBBH.out] at this; exact this
    by_cases hlt : k < l.length
    · have hkI : (k : Int) < (l.length : Int) := by omega
      obtain ⟨b, off, rfl, hb, hc⟩ := (hEH.out.below (hB.mono (by omega))) (by omega)
      obtain ⟨c0, c1, c2, c3⟩ := hc k hlt
      clear hc
      have hmv := Lib.hid (mv_get l hlt)
      rw [mv_get l hlt] at c0 c1 c2 c3
      have hfit := Lib.hid (hFH.out.at_ hlt)
      have hstep : Hid (qAt n l (k + 1) = (stepQ n (qAt n l k) (mv l k)).1) := rfl
      have hcode : Hid (codeQ n l k = (stepQ n (qAt n l k) (mv l k)).2) := rfl
      have hok := Lib.hid (QOk.at_ hn0 l k)
      have hlen : Hid (∀ a b, (qAt n l k).tr a b ≤ 900) := fun a b => Nat.le_trans (qAt_tr n l k a b) (by omega)
      have hcl := codeQ_le n (qAt n l k) (mv l k)
      generalize mv l k = m at *
      have hSa := hS.alloc (.cells #[.int .i64 m.k, .int .i64 m.f, .int .i64 m.t, .int .i64 m.v] 39)
      have hCa := Row.alloc hC (.cells #[.int .i64 m.k, .int .i64 m.f, .int .i64 m.t, .int .i64 m.v] 39)
      have hBa := hB.alloc hszr (.cells #[.int .i64 m.k, .int .i64 m.f, .int .i64 m.t, .int .i64 m.v] 39)
      have hgP : gc ≠ P := by
        obtain ⟨xs, hP, _⟩ := hS.prs
        exact row_ne hC hP (by decide)
      have hgM : gc ≠ M := fun e => hS.map.ne_row hC e.symm
      clear hS hC hB hmv
      have hcall := Lib.hid (execute_any _ B s P M n k (qAt n l k) hSa hok.out m hfit.out hn (by omega) hlen.out)
      unfold mvVal at hcall
      generalize (stepQ n (qAt n l k) m).1 = S2 at *
      generalize (stepQ n (qAt n l k) m).2 = cd at *
      obtain ⟨mk, mf, mt, mv'⟩ := m
      simp only at *
      clear hSa
      go_wp2_with fail
      refine hcall.out.mono ?_
      rintro e w5 ⟨rfl, hS5, hK5⟩
      have hC5 : CodRow w5 gc l.length (fun i => if i < k then codeQ n l i else 0) := hK5.row hCa hgP hgM
      have hB6 := hBa.trans hK5.low
      clear hCa hBa hK5 hcall
      have x1 := CodRow.at_ hC5 hlt
      have xf := Row.frozen hC5 k
      have hS7 := hS5.row hC5 (by decide) (by decide) k (.int .i64 cd)
      have hC7 := CodRow.put hC5 k cd
      have hlowC : B ≤ gc := hlowG.out
      have hB7 : Below B w1 (w5.setCell ⟨gc, k, none⟩ (.int .i64 cd)) := hB6.setCell (p := ⟨gc, k, none⟩) hlowC _
      have hrel7 : Hid (PlqRel w1 B s n P M l gc (k + 1) (w5.setCell ⟨gc, k, none⟩ (.int .i64 cd))) := ⟨by rw [hstep.out]; exact hS7, hC7.congr (fun j _ => by
        unfold updI
        by_cases e : j = k
        · subst e; rw [if_pos rfl, if_pos (by omega), hcode.out]
        · rw [if_neg e]
          show (if j < k then codeQ n l j else 0) = _
          by_cases h1 : j < k
          · rw [if_pos h1, if_pos (by omega)]
          · rw [if_neg h1, if_neg (by omega)]), hB7⟩
      clear hS7 hC7 hB7 hS5 hC5 hB6
      go_wp2_with fail
      go_roundw
      case rel => exact ⟨k + 1, by omega, by go_num, hrel7.out⟩
      case measure => simp [intOf]; omega
    · have hkl : k = l.length := by omega
      rw [hkl] at hS hC hlt hk
      subst hkl
      have hC0 : CodRow wr gc l.length (codeQ n l) := hC.congr (fun j hj => by rw [if_pos hj])
      have htr : ∀ a b, (qAt n l l.length).tr a b ≤ 900 := fun a b => Nat.le_trans (qAt_tr n l l.length a b) (by omega)
      have htrH := Lib.hid htr
      clear hC htr
      have hDH := Lib.hid (doneB_iff n (qAt n l l.length))
      generalize hD : doneB n (qAt n l l.length) = D at *
      have hDe := Lib.hid hD
      have hSH := Lib.hid hS
      clear hS hD
      go_wp2_with fail
      refine (idle_any wr B s P M n l.length _ _ hSH.out 0 hn0 hn D hDH.out).mono ?_
      rintro e w4 ⟨rfl, hB4⟩
      have hS4 := Lib.hid (hSH.out.below hB4)
      have hC4 : CodRow w4 gc l.length (codeQ n l) := Row.below hC0 hB4 (Row.lt hC0)
      have hBx := hB.trans (hB4.mono hszr)
      have hszx : B ≤ w4.heap.size := Nat.le_trans hszr hB4.size
      clear hC0 hB4 hB hSH
      go_wp2_with fail
      refine (works_any w4 B s P M n l.length _ _ hS4.out hn).mono ?_
      rintro e w5 ⟨rfl, hB5⟩
      have hS5 := Lib.hid (hS4.out.below hB5)
      have hC5 : CodRow w5 gc l.length (codeQ n l) := Row.below hC4 hB5 (Row.lt hC4)
      have hBy := hBx.trans (hB5.mono hszx)
      have hszy : B ≤ w5.heap.size := Nat.le_trans hszx hB5.size
      clear hC4 hB5 hBx hS4
      go_wp2_with fail
      refine (way_any w5 B s P M n l.length _ _ hS5.out hn htrH.out).mono ?_
      rintro e w6 ⟨rfl, hB6⟩
      have hC6 : CodRow w6 gc l.length (codeQ n l) := Row.below hC5 hB6 (Row.lt hC5)
      have hBz := hBy.trans (hB6.mono hszy)
      have hR6 := hR1.below hBz (by omega)
      clear hC5 hB6 hBy hS5 hR1
      have r0 := hR6.cell (i := 0) (by simp)
      have r1 := hR6.cell (i := 1) (by simp)
      have r2 := hR6.cell (i := 2) (by simp)
      have r3 := hR6.cell (i := 3) (by simp)
      have f0 := hR6.frozen 0
      have f1 := hR6.frozen 1
      have f2 := hR6.frozen 2
      have f3 := hR6.frozen 3
      simp only [List.getElem_cons_zero, List.getElem_cons_succ] at r0 r1 r2 r3
      have hCH := Lib.hid hC6
      have hRH := Lib.hid hR6
      clear hC6 hR6
      obtain ⟨W, hW⟩ : ∃ W, Hid (wordB n (qAt n l l.length).act = W) := ⟨_, rfl⟩
      obtain ⟨y, hy⟩ : ∃ y, Hid (wayS n (qAt n l l.length) = y) := ⟨_, rfl⟩
      rw [hW.out, hy.out]
      go_wp2_with fail
      have hR7 := (((hRH.out.set 0 (.slice (some ⟨gc, 0, none⟩) l.length l.length)).set 1 (.bool D)).set 2 (.int .u32 (W : Int))).set 3 (.int .i64 y)
      have hB7 : Below w.heap.size w ((((w6.setCell ⟨w.heap.size, 0, none⟩ (.slice (some ⟨gc, 0, none⟩) l.length l.length)).setCell ⟨w.heap.size, 1, none⟩ (.bool D)).setCell ⟨w.heap.size, 2, none⟩ (.int .u32 (W : Int))).setCell ⟨w.heap.size, 3, none⟩ (.int .i64 y)) :=
        ((((hB1.trans (hBz.mono (by omega))).setCell (p := ⟨w.heap.size, 0, none⟩) (Nat.le_refl _) _).setCell (p := ⟨w.heap.size, 1, none⟩) (Nat.le_refl _) _).setCell (p := ⟨w.heap.size, 2, none⟩) (Nat.le_refl _) _).setCell (p := ⟨w.heap.size, 3, none⟩) (Nat.le_refl _) _
      have hgne : gc ≠ w.heap.size := by have := hlowG.out; omega
      have hC7 : CodRow ((((w6.setCell ⟨w.heap.size, 0, none⟩ (.slice (some ⟨gc, 0, none⟩) l.length l.length)).setCell ⟨w.heap.size, 1, none⟩ (.bool D)).setCell ⟨w.heap.size, 2, none⟩ (.int .u32 (W : Int))).setCell ⟨w.heap.size, 3, none⟩ (.int .i64 y)) gc l.length (codeQ n l) := Row.block hCH.out (by
        rw [Below.heap_setCell _ _ _ gc hgne, Below.heap_setCell _ _ _ gc hgne, Below.heap_setCell _ _ _ gc hgne, Below.heap_setCell _ _ _ gc hgne])
      generalize (((w6.setCell ⟨w.heap.size, 0, none⟩ (.slice (some ⟨gc, 0, none⟩) l.length l.length)).setCell ⟨w.heap.size, 1, none⟩ (.bool D)).setCell ⟨w.heap.size, 2, none⟩ (.int .u32 (W : Int))).setCell ⟨w.heap.size, 3, none⟩ (.int .i64 y) = w7 at *
      have q0 := hR7.cell (i := 0) (by simp)
      have q1 := hR7.cell (i := 1) (by simp)
      have q2 := hR7.cell (i := 2) (by simp)
      have q3 := hR7.cell (i := 3) (by simp)
      simp at q0 q1 q2 q3
      (try simp only [Exit.inBlock, Exit.then])
      refine bodyPost_ret (v := .tuple #[qtVal gc l.length D W y, .int .i64 0]) ?_ rfl ⟨gc, by rw [hDe.out, hW.out, hy.out], hC7, by have := hlowG.out; omega, hB7⟩
      clear hC7 hR7 hB7 hB1 hBz
      rw [results_cell_tmp rfl]
      unfold qtVal
      go_simp

#print axioms start_any
#print axioms play_no
#print axioms play_ok
end Go.Proofs.Ytichcahlokjblaa
