/-
  The contract of turn.Play.
-/
import Derived.Test.YthnmppajakdcaaaTst
import Derived.Test.YthnmppajakdcaaaTww
import Derived.Test.YthnmppajakdcaaaCoq
import Derived.Laws.ResultCell
namespace Go.Proofs.Ythnmppajakdcaaa
open Go.RowKit Go.Maps
set_option linter.unusedVariables false

/-! The clocks. -/
theorem enter_clk (S : TS) (i : Nat) : (S.enter i).clk = S.clk := by unfold TS.enter; split <;> rfl
theorem step_clk {n : Nat} {S : TS} (hI : TInv n S) {c : Int} (h : ∀ i, S.clk i ≤ c) (hc : 0 ≤ c) (m : Mv) (i : Nat) : (stepT n S m).1.clk i ≤ c + 1 := by
  have h0 : S.clk i ≤ c + 1 := by have := h i; omega
  unfold stepT
  split
  · exact h0
  split
  · exact h0
  split
  · split
    · exact h0
    · show (TS.enter _ _).clk i ≤ _
      rw [enter_clk]
      show up1 S.clk _ _ i ≤ _
      by_cases e : i = m.f.toNat
      · subst e; rw [up1_same]; have := h m.f.toNat; omega
      · rw [up1_other _ _ e]; omega
  split
  · split
    · show S.clk i ≤ _; omega
    · exact h0
  split
  · exact h0
  split
  · exact h0
  · next hq =>
    generalize m.f.toNat = a at *
    generalize m.t.toNat = b at *
    show (S.come a b).clk i ≤ _
    unfold TS.come
    cases e : S.q a b with
    | nil => exact absurd e hq
    | cons x r =>
      show (if x = 0 then _ else _ : TS).clk i ≤ _
      by_cases hx : x = 0
      · rw [if_pos hx, enter_clk]
        show S.clk i ≤ _; omega
      · rw [if_neg hx]
        obtain ⟨_, h1, h2⟩ := hI.asked e hx
        have h4 := hI.num1 a
        have h5 := h a
        have key : up1 S.clk b (max (S.clk b) x) i ≤ c + 1 := by
          by_cases e2 : i = b
          · subst e2; rw [up1_same]; omega
          · rw [up1_other _ _ e2]; omega
        unfold TS.answer
        split
        · exact key
        · exact key
theorem tAt_clk (n : Nat) (l : List Mv) (k i : Nat) : (tAt n l k).clk i ≤ k := by
  induction k generalizing i with
  | zero => exact Int.le_refl _
  | succ k ih =>
    have := step_clk (TInv.at_ n l k) (c := k) ih (by omega) (mv l k) i
    show (stepT n (tAt n l k) (mv l k)).1.clk i ≤ _
    omega
theorem OkT.at_ (n : Nat) (l : List Mv) {k : Nat} (hk : k ≤ 1000) : OkT n (tAt n l k) := ⟨TInv.at_ n l k, fun i => by have := tAt_clk n l k i; omega⟩

def ttVal (gc len : Nat) (V W : Nat) (y : Int) : Value := .agg #[.slice (some ⟨gc, 0, none⟩) len len, .int .u32 (V : Int), .int .u32 (W : Int), .int .i64 y]
/-- What Play returns. -/
def PltRes (w : World) (n : Nat) (l : List Mv) (e : Ending) (w' : World) : Prop :=
  ∃ gc, e = .returned (.tuple #[ttVal gc l.length (wordB n (tAt n l l.length).ins) (wordB n (tAt n l l.length).req) (wayT n (tAt n l l.length)), .int .i64 0]) ∧ CodRow w' gc l.length (codeT n l) ∧ w.heap.size ≤ gc ∧ Below w.heap.size w w'

set_option maxHeartbeats 800000 in
theorem play_no (A : Option Addr) (cap : Nat) (l : List Mv) (n : Int) (w : World) (hl : l.length ≤ maxLen) (h : ¬ Plays n l.length) :
    Calls Try.prog 7 #[.int .i64 n, .slice A l.length cap] w fun e w' => e = .returned (.tuple #[.agg #[.slice none 0 0, .int .u32 0, .int .u32 0, .int .i64 0], .int .i64 1]) ∧ Below w.heap.size w w' := by
  have hB1 := (Below.refl w.heap.size w).alloc (Nat.le_refl _) (.cells #[.slice none 0 0, .int .u32 0, .int .u32 0, .int .i64 0] 26)
  have hh : n < 1 ∨ 6 < n ∨ 60 < (l.length : Int) := by
    unfold Plays at h
    omega
  clear h
  have hl2 : (l.length : Int) ≤ 9223372036854775807 := by unfold maxLen at hl; omega
  by_cases h1 : n < 1
  · go_enter Try.func7, Try.ntmps7
    go_wp2_with fail
    (try simp only [Exit.inBlock, Exit.then])
    refine bodyPost_ret (v := .tuple #[.agg #[.slice none 0 0, .int .u32 0, .int .u32 0, .int .i64 0], .int .i64 1]) ?_ rfl ⟨rfl, hB1⟩
    rw [results_cell_tmp rfl]
    go_simp
  · by_cases h2 : 6 < n
    · go_enter Try.func7, Try.ntmps7
      go_wp2_with fail
      (try simp only [Exit.inBlock, Exit.then])
      refine bodyPost_ret (v := .tuple #[.agg #[.slice none 0 0, .int .u32 0, .int .u32 0, .int .i64 0], .int .i64 1]) ?_ rfl ⟨rfl, hB1⟩
      rw [results_cell_tmp rfl]
      go_simp
    · have h3 : 60 < (l.length : Int) := by omega
      go_enter Try.func7, Try.ntmps7
      go_wp2_with fail
      (try simp only [Exit.inBlock, Exit.then])
      refine bodyPost_ret (v := .tuple #[.agg #[.slice none 0 0, .int .u32 0, .int .u32 0, .int .i64 0], .int .i64 1]) ?_ rfl ⟨rfl, hB1⟩
      rw [results_cell_tmp rfl]
      go_simp

def PltRel (w1 : World) (B s n P M : Nat) (D : Nat → Nat) (l : List Mv) (gc k : Nat) (wr : World) : Prop :=
  SysT wr B s P M n (k * 7) D (tAt n l k) ∧ CodRow wr gc l.length (fun i => if i < k then codeT n l i else 0) ∧ Below B w1 wr
theorem SysT.row {w : World} {B s P M n c : Nat} {D : Nat → Nat} {S : TS} (h : SysT w B s P M n c D S) {g : Nat} {t : TypeId} {ys : List Value} (hr : Row w g t ys) (h1 : t ≠ 61) (h2 : t ≠ 63) (h3 : t ≠ 4) (h4 : t ≠ 3) (k : Nat) (v : Value) : SysT (w.setCell ⟨g, k, none⟩ v) B s P M n c D S := by
  obtain ⟨f, h⟩ := h
  exact ⟨f, h.row hr h1 h2 h3 h4 k v⟩

set_option maxHeartbeats 8000000 in
set_option maxRecDepth 100000 in
theorem play_ok (A : Option Addr) (cap : Nat) (l : List Mv) (n : Nat) (w : World) (hE : Mvs w w.heap.size A l) (hF : MFits l) (h : Plays (n : Int) l.length) :
    Calls Try.prog 7 #[.int .i64 (n : Int), .slice A l.length cap] w (PltRes w n l) := by
  obtain ⟨h1, h2, h3⟩ := h
  have hn : n ≤ 6 := by omega
  have hn0 : 0 < n := by omega
  have hl60 : (l.length : Int) ≤ 60 := by omega
  have hB1 := (Below.refl w.heap.size w).alloc (Nat.le_refl _) (.cells #[.slice none 0 0, .int .u32 0, .int .u32 0, .int .i64 0] 26)
  have hR1 := Row.made w 26 [.slice none 0 0, .int .u32 0, .int .u32 0, .int .i64 0]
  have hE1 := hE.below hB1
  have hsz1 : (w.alloc (.cells #[.slice none 0 0, .int .u32 0, .int .u32 0, .int .i64 0] 26)).heap.size = w.heap.size + 1 := by simp
  obtain ⟨j0, hi0, hz0, hz1, hz2⟩ := info_parts infoErr
  have hJi := Lib.hid hi0; have hJz := Lib.hid hz0; have hJs := Lib.hid hz1
  have b2 : j0.bytes * l.length ≤ 281474976710656 := by rw [hz2]; omega
  have hFH := Lib.hid hF
  have hEH := Lib.hid hE1
  clear hi0 hz0 hz1 hz2 hF hE hE1
  go_enter Try.func7, Try.ntmps7
  go_wp2_with fail
  refine (start_any _ n hn hn0).mono ?_
  rintro e w2 ⟨s, P, M, D, rfl, hS2, hB2⟩
  generalize hw1 : w.alloc (.cells #[.slice none 0 0, .int .u32 0, .int .u32 0, .int .i64 0] 26) = w1 at *
  clear hw1
  generalize hBB : w1.heap.size = B at *
  have hszB2 := hB2.size
  rw [hBB] at hszB2
  have hS2H := Lib.hid hS2
  have hBBH := Lib.hid hBB
  clear hBB hS2
  go_wp2_with (first
    | (at_make; refine wpList_make_row _ rfl _ _ 23 rfl 27 j0 (.int .i64 0) Try.underlying23 hJi.out hJz.out hJs.out rfl .i64 .i64 _ _ l.length rfl rfl rfl rfl b2 (by unfold maxLen; omega) ?_; intro w3 hR3 hG3
       have hrel3 : PltRel w1 B s n P M D l w2.heap.size 0 w3 := (by
         refine ⟨hS2H.out.blocks fun g _ hg => hG3.block g hg (by simp), ?_, hB2.grown hG3 (by omega) (by simp)⟩
         rw [intRow_zero] at hR3
         exact CodRow.congr hR3 (fun j _ => by simp))
       clear hR3 hG3 hB2 hS2H))
  have hlowG : Hid (B ≤ w2.heap.size) := hszB2
  generalize w2.heap.size = gc at *
  go_loopw [29] (fun t wr => ∃ k : Nat, k ≤ l.length ∧ t = .int .i64 k ∧ PltRel w1 B s n P M D l gc k wr) (fun t _ => l.length - (intOf t).toNat)
  case atStart => exact ⟨0, Nat.zero_le _, rfl, hrel3⟩
  case round =>
    clear hrel3
    obtain ⟨k, hk, rfl, hS, hC, hB⟩ := hrel
    have hszr : B ≤ wr.heap.size := by have := hB.size; rw [hBBH.out] at this; exact this
    by_cases hlt : k < l.length
    · have hkI : (k : Int) < (l.length : Int) := by omega
      obtain ⟨b, off, rfl, hb, hc⟩ := (hEH.out.below (hB.mono (by omega))) (by omega)
      obtain ⟨c0, c1, c2, c3⟩ := hc k hlt
      clear hc
      rw [mv_get l hlt] at c0 c1 c2 c3
      have hfit := Lib.hid (hFH.out.at_ hlt)
      have hstep : Hid (tAt n l (k + 1) = (stepT n (tAt n l k) (mv l k)).1) := rfl
      have hcode : Hid (codeT n l k = (stepT n (tAt n l k) (mv l k)).2) := rfl
      have hok := Lib.hid (OkT.at_ n l (k := k) (by omega))
      generalize mv l k = m at *
      have hSa := hS.alloc (.cells #[.int .i64 m.k, .int .i64 m.f, .int .i64 m.t, .int .i64 m.v] 38)
      have hCa := Row.alloc hC (.cells #[.int .i64 m.k, .int .i64 m.f, .int .i64 m.t, .int .i64 m.v] 38)
      have hBa := hB.alloc hszr (.cells #[.int .i64 m.k, .int .i64 m.f, .int .i64 m.t, .int .i64 m.v] 38)
      clear hS hC hB
      have hcall := Lib.hid (execute_any _ B s P M n (k * 7) D (tAt n l k) hSa hok.out m hfit.out hn (by omega))
      unfold mvVal at hcall
      generalize (stepT n (tAt n l k) m).1 = S2 at *
      generalize (stepT n (tAt n l k) m).2 = cd at *
      obtain ⟨mk, mf, mt, mv'⟩ := m
      simp only at *
      clear hSa
      go_wp2_with fail
      refine hcall.out.mono ?_
      rintro e w5 ⟨rfl, hS5, hK5⟩
      have hC5 : CodRow w5 gc l.length (fun i => if i < k then codeT n l i else 0) := hK5.err _ _ hCa
      have hB6 := hBa.trans hK5.low
      clear hCa hBa hK5 hcall
      have x1 := CodRow.at_ hC5 hlt
      have xf := Row.frozen hC5 k
      have hS7 := hS5.row hC5 (by decide) (by decide) (by decide) (by decide) k (.int .i64 cd)
      have hC7 := CodRow.put hC5 k cd
      have hlowC : B ≤ gc := hlowG.out
      have hB7 : Below B w1 (w5.setCell ⟨gc, k, none⟩ (.int .i64 cd)) := hB6.setCell (p := ⟨gc, k, none⟩) hlowC _
      have hrel7 : Hid (PltRel w1 B s n P M D l gc (k + 1) (w5.setCell ⟨gc, k, none⟩ (.int .i64 cd))) := ⟨by rw [hstep.out, show (k + 1) * 7 = k * 7 + 7 by omega]; exact hS7, hC7.congr (fun j _ => by
        unfold updI
        by_cases e : j = k
        · subst e; rw [if_pos rfl, if_pos (by omega), hcode.out]
        · rw [if_neg e]
          show (if j < k then codeT n l j else 0) = _
          by_cases h1 : j < k
          · rw [if_pos h1, if_pos (by omega)]
          · rw [if_neg h1, if_neg (by omega)]), hB7⟩
      clear hS7 hC7 hB7 hS5 hC5 hB6
      go_wp2_with fail
      go_roundw
      case rel => exact ⟨k + 1, by omega, by go_num, hrel7.out⟩
      case measure => simp [intOf]; omega
    · have hkl : k = l.length := by omega
      rw [hkl] at hS hC hlt hk
      subst hkl
      have hC0 : CodRow wr gc l.length (codeT n l) := hC.congr (fun j hj => by rw [if_pos hj])
      have hlq : Hid (∀ a b, ((tAt n l l.length).q a b).length ≤ 900) := (OkT.at_ n l (k := l.length) (by omega)).len
      have hSH := Lib.hid hS
      clear hS hC
      go_wp2_with fail
      refine (in_any wr B s P M n _ D _ hSH.out hn).mono ?_
      rintro e w4 ⟨rfl, hB4⟩
      have hS4 := Lib.hid (hSH.out.below hB4)
      have hC4 : CodRow w4 gc l.length (codeT n l) := Row.below hC0 hB4 (Row.lt hC0)
      have hBx := hB.trans (hB4.mono hszr)
      have hszx : B ≤ w4.heap.size := Nat.le_trans hszr hB4.size
      clear hC0 hB4 hB hSH
      go_wp2_with fail
      refine (want_any w4 B s P M n _ D _ hS4.out hn).mono ?_
      rintro e w5 ⟨rfl, hB5⟩
      have hS5 := Lib.hid (hS4.out.below hB5)
      have hC5 : CodRow w5 gc l.length (codeT n l) := Row.below hC4 hB5 (Row.lt hC4)
      have hBy := hBx.trans (hB5.mono hszx)
      have hszy : B ≤ w5.heap.size := Nat.le_trans hszx hB5.size
      clear hC4 hB5 hBx hS4
      go_wp2_with fail
      refine (way_any w5 B s P M n _ D _ hS5.out hn hlq.out).mono ?_
      rintro e w6 ⟨rfl, hB6⟩
      have hC6 : CodRow w6 gc l.length (codeT n l) := Row.below hC5 hB6 (Row.lt hC5)
      have hBz := hBy.trans (hB6.mono hszy)
      have hR6 := hR1.below hBz (by omega)
      clear hC5 hB6 hBy hS5 hR1
      have r0 := hR6.cell (i := 0) (by simp)
      have r1 := hR6.cell (i := 1) (by simp)
      have r2 := hR6.cell (i := 2) (by simp)
      have r3 := hR6.cell (i := 3) (by simp)
      have f0 := hR6.frozen 0
      have f1 := hR6.frozen 1
      have f2 := hR6.frozen 2
      have f3 := hR6.frozen 3
      simp only [List.getElem_cons_zero, List.getElem_cons_succ] at r0 r1 r2 r3
      have hCH := Lib.hid hC6
      have hRH := Lib.hid hR6
      clear hC6 hR6
      obtain ⟨V, hV⟩ : ∃ V, Hid (wordB n (tAt n l l.length).ins = V) := ⟨_, rfl⟩
      obtain ⟨W, hW⟩ : ∃ W, Hid (wordB n (tAt n l l.length).req = W) := ⟨_, rfl⟩
      obtain ⟨y, hy⟩ : ∃ y, Hid (wayT n (tAt n l l.length) = y) := ⟨_, rfl⟩
      rw [hV.out, hW.out, hy.out]
      go_wp2_with fail
      have hR7 := (((hRH.out.set 0 (.slice (some ⟨gc, 0, none⟩) l.length l.length)).set 1 (.int .u32 (V : Int))).set 2 (.int .u32 (W : Int))).set 3 (.int .i64 y)
      have hB7 : Below w.heap.size w ((((w6.setCell ⟨w.heap.size, 0, none⟩ (.slice (some ⟨gc, 0, none⟩) l.length l.length)).setCell ⟨w.heap.size, 1, none⟩ (.int .u32 (V : Int))).setCell ⟨w.heap.size, 2, none⟩ (.int .u32 (W : Int))).setCell ⟨w.heap.size, 3, none⟩ (.int .i64 y)) :=
        ((((hB1.trans (hBz.mono (by omega))).setCell (p := ⟨w.heap.size, 0, none⟩) (Nat.le_refl _) _).setCell (p := ⟨w.heap.size, 1, none⟩) (Nat.le_refl _) _).setCell (p := ⟨w.heap.size, 2, none⟩) (Nat.le_refl _) _).setCell (p := ⟨w.heap.size, 3, none⟩) (Nat.le_refl _) _
      have hgne : gc ≠ w.heap.size := by have := hlowG.out; omega
      have hC7 : CodRow ((((w6.setCell ⟨w.heap.size, 0, none⟩ (.slice (some ⟨gc, 0, none⟩) l.length l.length)).setCell ⟨w.heap.size, 1, none⟩ (.int .u32 (V : Int))).setCell ⟨w.heap.size, 2, none⟩ (.int .u32 (W : Int))).setCell ⟨w.heap.size, 3, none⟩ (.int .i64 y)) gc l.length (codeT n l) := Row.block hCH.out (by
        rw [Below.heap_setCell _ _ _ gc hgne, Below.heap_setCell _ _ _ gc hgne, Below.heap_setCell _ _ _ gc hgne, Below.heap_setCell _ _ _ gc hgne])
      generalize (((w6.setCell ⟨w.heap.size, 0, none⟩ (.slice (some ⟨gc, 0, none⟩) l.length l.length)).setCell ⟨w.heap.size, 1, none⟩ (.int .u32 (V : Int))).setCell ⟨w.heap.size, 2, none⟩ (.int .u32 (W : Int))).setCell ⟨w.heap.size, 3, none⟩ (.int .i64 y) = w7 at *
      have q0 := hR7.cell (i := 0) (by simp)
      have q1 := hR7.cell (i := 1) (by simp)
      have q2 := hR7.cell (i := 2) (by simp)
      have q3 := hR7.cell (i := 3) (by simp)
      simp at q0 q1 q2 q3
      (try simp only [Exit.inBlock, Exit.then])
      refine bodyPost_ret (v := .tuple #[ttVal gc l.length V W y, .int .i64 0]) ?_ rfl ⟨gc, by rw [hV.out, hW.out, hy.out], hC7, by have := hlowG.out; omega, hB7⟩
      clear hC7 hR7 hB7 hB1 hBz
      rw [results_cell_tmp rfl]
      unfold ttVal
      go_simp

#print axioms play_no
#print axioms play_ok
end Go.Proofs.Ythnmppajakdcaaa
