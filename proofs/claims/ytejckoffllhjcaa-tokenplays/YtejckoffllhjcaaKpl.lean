/-
  The contract of token.Play.
-/
import Derived.Test.YtejckoffllhjcaaKst
import Derived.Test.YtejckoffllhjcaaKww
import Derived.Test.YtejckoffllhjcaaKcd
import Derived.Test.YtejckoffllhjcaaCoq
import Derived.Laws.ResultCell
namespace Go.Proofs.Ytejckoffllhjcaa
open Go.RowKit Go.Maps
set_option linter.unusedVariables false

theorem KInv.tree {l : List Int} (h : rngB l = true) (ht : treeB l.length (upN l) = true) : KInv l.length (KS.begin (upN l)) :=
  KInvX.begin (fun i hi => upN_lt h hi) (treeB_iff.1 ht).2
theorem checkK_ok {l : List Int} {m : Nat} (h : checkK l m = 0) : 1 ≤ l.length ∧ l.length ≤ 6 ∧ m ≤ 60 ∧ rngB l = true ∧ treeB l.length (upN l) = true := by
  unfold checkK at h
  split at h
  · next hp =>
    unfold treeCode at h
    split at h
    · next hr =>
      split at h
      · next ht => exact ⟨hp.1, hp.2.1, hp.2.2, hr, ht⟩
      · cases h
    · cases h
  · cases h
def wantB (S : KS) (i : Nat) : Bool := decide (i ∈ S.row i)
def ttVal (gc len : Nat) (V W : Nat) (y : Int) : Value := .agg #[.slice (some ⟨gc, 0, none⟩) len len, .int .u32 (V : Int), .int .u32 (W : Int), .int .i64 y]
def noVal : Value := .agg #[.slice none 0 0, .int .u32 0, .int .u32 0, .int .i64 0]
/-- What Play returns. -/
def PlkRes (w : World) (n : Nat) (u : Nat → Nat) (l : List Mv) (e : Ending) (w' : World) : Prop :=
  ∃ gc, e = .returned (.tuple #[ttVal gc l.length (wordB n (kAt n u l l.length).ins) (wordB n (wantB (kAt n u l l.length))) (wayK n (kAt n u l l.length)), .int .i64 0]) ∧ CodRow w' gc l.length (codeK n u l) ∧ w.heap.size ≤ gc ∧ Below w.heap.size w w'

set_option maxHeartbeats 800000 in
theorem play_no (A0 : Option Addr) (cap0 : Nat) (ul : List Int) (A : Option Addr) (cap m : Nat) (w : World) (hU : Nums w w.heap.size A0 ul) (hul : ul.length ≤ maxLen) (hm : m ≤ maxLen) (h : checkK ul m ≠ 0) :
    Calls Try.prog 7 #[.slice A0 ul.length cap0, .slice A m cap] w fun e w' => e = .returned (.tuple #[noVal, .int .i64 (checkK ul m)]) ∧ Below w.heap.size w w' := by
  have hB1 := (Below.refl w.heap.size w).alloc (Nat.le_refl _) (.cells #[.slice none 0 0, .int .u32 0, .int .u32 0, .int .i64 0] 27)
  have hR1 := Row.made w 27 [.slice none 0 0, .int .u32 0, .int .u32 0, .int .i64 0]
  have hU1 : Nums (w.alloc (.cells #[.slice none 0 0, .int .u32 0, .int .u32 0, .int .i64 0] 27)) (w.alloc (.cells #[.slice none 0 0, .int .u32 0, .int .u32 0, .int .i64 0] 27)).heap.size A0 ul := (hU.below hB1).more (by simp)
  have hchk := Lib.hid (check_any _ A0 A cap0 cap ul m hU1 hul hm)
  have hsz : (w.alloc (.cells #[.slice none 0 0, .int .u32 0, .int .u32 0, .int .i64 0] 27)).heap.size = w.heap.size + 1 := by simp
  have hRH := Lib.hid hR1
  have hBH := Lib.hid hB1
  have hcb : (checkK ul m != 0) = true := by rw [bne_iff_ne]; exact h
  generalize checkK ul m = c at *
  clear hU hU1 hul hm h hR1 hB1
  go_enter Try.func7, Try.ntmps7
  go_wp2_with fail
  refine hchk.out.mono ?_
  rintro e w2 ⟨rfl, hB2⟩
  have hR2 := hRH.out.below hB2 hRH.out.lt
  have hB3 := hBH.out.trans (hB2.mono (by omega))
  have r0 := hR2.cell (i := 0) (by simp)
  have r1 := hR2.cell (i := 1) (by simp)
  have r2 := hR2.cell (i := 2) (by simp)
  have r3 := hR2.cell (i := 3) (by simp)
  have f0 := hR2.frozen 0
  have f1 := hR2.frozen 1
  have f2 := hR2.frozen 2
  have f3 := hR2.frozen 3
  simp only [List.getElem_cons_zero, List.getElem_cons_succ] at r0 r1 r2 r3
  have hR3 := (((hR2.set 0 (.slice none 0 0)).set 1 (.int .u32 0)).set 2 (.int .u32 0)).set 3 (.int .i64 0)
  have hB4 := Lib.hid ((((hB3.setCell (p := ⟨w.heap.size, 0, none⟩) (Nat.le_refl _) (.slice none 0 0)).setCell (p := ⟨w.heap.size, 1, none⟩) (Nat.le_refl _) (.int .u32 0)).setCell (p := ⟨w.heap.size, 2, none⟩) (Nat.le_refl _) (.int .u32 0)).setCell (p := ⟨w.heap.size, 3, none⟩) (Nat.le_refl _) (.int .i64 0))
  clear hR2 hB2 hB3 hRH hBH
  go_wp2_with fail
  generalize (((w2.setCell ⟨w.heap.size, 0, none⟩ (.slice none 0 0)).setCell ⟨w.heap.size, 1, none⟩ (.int .u32 0)).setCell ⟨w.heap.size, 2, none⟩ (.int .u32 0)).setCell ⟨w.heap.size, 3, none⟩ (.int .i64 0) = w7 at *
  have q0 := hR3.cell (i := 0) (by simp)
  have q1 := hR3.cell (i := 1) (by simp)
  have q2 := hR3.cell (i := 2) (by simp)
  have q3 := hR3.cell (i := 3) (by simp)
  simp at q0 q1 q2 q3
  (try simp only [Exit.inBlock, Exit.then])
  refine bodyPost_ret (v := .tuple #[noVal, .int .i64 c]) ?_ rfl ⟨rfl, hB4.out⟩
  rw [results_cell_tmp rfl]
  unfold noVal
  go_simp

def PlkRel (w1 : World) (B s n P M : Nat) (u : Nat → Nat) (l : List Mv) (gc k : Nat) (wr : World) : Prop :=
  SysK wr B s P M n (k * 7) (kAt n u l k) ∧ CodRow wr gc l.length (fun i => if i < k then codeK n u l i else 0) ∧ Below B w1 wr

set_option maxHeartbeats 4000000 in
set_option maxRecDepth 100000 in
theorem play_ok (A0 : Option Addr) (cap0 : Nat) (ul : List Int) (A : Option Addr) (cap : Nat) (l : List Mv) (w : World) (hU : Nums w w.heap.size A0 ul) (hul : ul.length ≤ maxLen) (hE : Mvs w w.heap.size A l) (hF : MFits l) (hll : l.length ≤ maxLen) (h : checkK ul l.length = 0) :
    Calls Try.prog 7 #[.slice A0 ul.length cap0, .slice A l.length cap] w (PlkRes w ul.length (upN ul) l) := by
  obtain ⟨h1, h2, h3, hrb, htb⟩ := checkK_ok h
  obtain ⟨b0, off0, rfl, hcu⟩ := nums_upK hU hrb (by omega)
  have hb0 : b0 < w.heap.size := by
    obtain ⟨bx, offx, ex, hb0, _⟩ := hU (by omega)
    injection ex with ex
    injection ex with ex1 ex2
    rw [ex1]; exact hb0
  have hB1 := (Below.refl w.heap.size w).alloc (Nat.le_refl _) (.cells #[.slice none 0 0, .int .u32 0, .int .u32 0, .int .i64 0] 27)
  have hR1 := Row.made w 27 [.slice none 0 0, .int .u32 0, .int .u32 0, .int .i64 0]
  have hsz1 : (w.alloc (.cells #[.slice none 0 0, .int .u32 0, .int .u32 0, .int .i64 0] 27)).heap.size = w.heap.size + 1 := by simp
  have hchk := Lib.hid (check_any _ (some ⟨b0, off0, none⟩) A cap0 cap ul l.length ((hU.below hB1).more (B' := (w.alloc (.cells #[.slice none 0 0, .int .u32 0, .int .u32 0, .int .i64 0] 27)).heap.size) (by simp)) hul hll)
  rw [h] at hchk
  have hKI := Lib.hid (fun k => KInvX.at_ (KInv.tree hrb htb) l k)
  have hcuH := Lib.hid hcu
  have hl60 : (l.length : Int) ≤ 60 := by omega
  obtain ⟨j0, hi0, hz0, hz1, hz2⟩ := info_parts infoErr
  have hJi := Lib.hid hi0; have hJz := Lib.hid hz0; have hJs := Lib.hid hz1
  have b2 : j0.bytes * l.length ≤ 281474976710656 := by rw [hz2]; omega
  have hFH := Lib.hid hF
  have hEH := Lib.hid hE
  have hB1H := Lib.hid hB1
  have hR1H := Lib.hid hR1
  clear hi0 hz0 hz1 hz2 hF hE h hcu hU hrb htb hul hll hB1 hR1
  generalize upN ul = u at *
  have hn : ul.length ≤ 6 := h2
  have hn0 : 0 < ul.length := by omega
  clear h1 h2 h3
  generalize ul.length = n at *
  go_enter Try.func7, Try.ntmps7
  go_wp2_with fail
  refine hchk.out.mono ?_
  rintro e w1 ⟨rfl, hBc⟩
  have hR1 := hR1H.out.below hBc hR1H.out.lt
  have hB1 : Below w.heap.size w w1 := hB1H.out.trans (hBc.mono (by omega))
  have hszw1 : w.heap.size < w1.heap.size := by have := hBc.size; omega
  have hE1 := hEH.out.below hB1
  have hstart := Lib.hid (start_any w1 b0 off0 cap0 u n (by omega) (fun i hi => (hB1.cell (p := ⟨b0, off0 + i, none⟩) hb0).trans (hcuH.out i hi)) hn hn0)
  have hEH1 := Lib.hid hE1
  clear hchk hBc hcuH hE1 hEH hR1H hB1H hsz1
  go_wp2_with fail
  refine hstart.out.mono ?_
  rintro e w2 ⟨s, P, M, rfl, hS2, hB2⟩
  clear hstart
  generalize hBB : w1.heap.size = B at *
  have hszB2 := hB2.size
  rw [hBB] at hszB2
  have hS2H := Lib.hid hS2
  have hBBH := Lib.hid hBB
  clear hBB hS2
  go_wp2_with (first
    | (at_make; refine wpList_make_row _ rfl _ _ 24 rfl 28 j0 (.int .i64 0) Try.underlying24 hJi.out hJz.out hJs.out rfl .i64 .i64 _ _ l.length rfl rfl rfl rfl b2 (by unfold maxLen; omega) ?_; intro w3 hR3 hG3
       have hrel3 : PlkRel w1 B s n P M u l w2.heap.size 0 w3 := (by
         refine ⟨hS2H.out.blocks fun g _ hg => hG3.block g hg (by simp), ?_, hB2.grown hG3 (by omega) (by simp)⟩
         rw [intRow_zero] at hR3
         exact CodRow.congr hR3 (fun j _ => by simp))
       clear hR3 hG3 hB2 hS2H))
  have hlowG : Hid (B ≤ w2.heap.size) := hszB2
  generalize w2.heap.size = gc at *
  go_loopw [25] (fun t wr => ∃ k : Nat, k ≤ l.length ∧ t = .int .i64 k ∧ PlkRel w1 B s n P M u l gc k wr) (fun t _ => l.length - (intOf t).toNat)
  case atStart => exact ⟨0, Nat.zero_le _, rfl, hrel3⟩
  case round =>
    clear hrel3
    obtain ⟨k, hk, rfl, hS, hC, hB⟩ := hrel
    have hszr : B ≤ wr.heap.size := by have := hB.size; rw [hBBH.out] at this; exact this
    by_cases hlt : k < l.length
    · have hkI : (k : Int) < (l.length : Int) := by omega
      obtain ⟨b, off, rfl, hb, hc⟩ := (hEH1.out.below (hB.mono (by omega))) (by omega)
      obtain ⟨c0, c1, c2, c3⟩ := hc k hlt
      clear hc
      rw [mv_get l hlt] at c0 c1 c2 c3
      have hfit := Lib.hid (hFH.out.at_ hlt)
      have hstep : Hid (kAt n u l (k + 1) = (stepK n (kAt n u l k) (mv l k)).1) := rfl
      have hcode : Hid (codeK n u l k = (stepK n (kAt n u l k) (mv l k)).2) := rfl
      have hok := Lib.hid ((hKI.out k).ok hn)
      generalize mv l k = m at *
      have hSa := hS.alloc (.cells #[.int .i64 m.k, .int .i64 m.f, .int .i64 m.t, .int .i64 m.v] 40)
      have hCa := Row.alloc hC (.cells #[.int .i64 m.k, .int .i64 m.f, .int .i64 m.t, .int .i64 m.v] 40)
      have hBa := hB.alloc hszr (.cells #[.int .i64 m.k, .int .i64 m.f, .int .i64 m.t, .int .i64 m.v] 40)
      clear hS hC hB
      have hcall := Lib.hid (execute_any _ B s P M n (k * 7) (kAt n u l k) hSa hok.out m hfit.out hn (by omega))
      unfold mvVal at hcall
      generalize (stepK n (kAt n u l k) m).1 = S2 at *
      generalize (stepK n (kAt n u l k) m).2 = cd at *
      obtain ⟨mk, mf, mt, mv'⟩ := m
      simp only at *
      clear hSa
      go_wp2_with fail
      refine hcall.out.mono ?_
      rintro e w5 ⟨rfl, hS5, hK5⟩
      have hC5 : CodRow w5 gc l.length (fun i => if i < k then codeK n u l i else 0) := hK5.err _ _ hCa
      have hB6 := hBa.trans hK5.low
      clear hCa hBa hK5 hcall
      have x1 := CodRow.at_ hC5 hlt
      have xf := Row.frozen hC5 k
      have hS7 := hS5.wrote hC5 (by decide) (by decide) (by decide) (by decide) k (.int .i64 cd)
      have hC7 := CodRow.put hC5 k cd
      have hlowC : B ≤ gc := hlowG.out
      have hB7 : Below B w1 (w5.setCell ⟨gc, k, none⟩ (.int .i64 cd)) := hB6.setCell (p := ⟨gc, k, none⟩) hlowC _
      have hrel7 : Hid (PlkRel w1 B s n P M u l gc (k + 1) (w5.setCell ⟨gc, k, none⟩ (.int .i64 cd))) := ⟨by rw [hstep.out, show (k + 1) * 7 = k * 7 + 7 by omega]; exact hS7, hC7.congr (fun j _ => by
        unfold updI
        by_cases e : j = k
        · subst e; rw [if_pos rfl, if_pos (by omega), hcode.out]
        · rw [if_neg e]
          show (if j < k then codeK n u l j else 0) = _
          by_cases h1 : j < k
          · rw [if_pos h1, if_pos (by omega)]
          · rw [if_neg h1, if_neg (by omega)]), hB7⟩
      clear hS7 hC7 hB7 hS5 hC5 hB6
      go_wp2_with fail
      go_roundw
      case rel => exact ⟨k + 1, by omega, by go_num, hrel7.out⟩
      case measure => simp [intOf]; omega
    · have hkl : k = l.length := by omega
      rw [hkl] at hS hC hlt hk
      subst hkl
      have hC0 : CodRow wr gc l.length (codeK n u l) := hC.congr (fun j hj => by rw [if_pos hj])
      have hOk := (hKI.out l.length).ok hn
      have hin := Lib.hid (setIn_any wr B s P M n _ _ hS hn (kAt n u l l.length).ins (fun i hi => inside_any wr B s P M n _ _ hS i hi hn))
      have hwt := Lib.hid (setWant_any wr B s P M n _ _ hS hn (wantB (kAt n u l l.length)) (fun i hi => wants_any wr B s P M n _ _ hS i hi hn (Nat.le_trans (hOk.row i) (by omega)) _ (by unfold wantB; rw [decide_eq_true_iff])))
      have hwy := Lib.hid (way_any wr B s P M n _ _ hS hn (fun a b => Nat.le_trans (hOk.len a b) (by omega)))
      obtain ⟨V, hV⟩ : ∃ V, Hid (wordB n (kAt n u l l.length).ins = V) := ⟨_, rfl⟩
      obtain ⟨W, hW⟩ : ∃ W, Hid (wordB n (wantB (kAt n u l l.length)) = W) := ⟨_, rfl⟩
      obtain ⟨y, hy⟩ : ∃ y, Hid (wayK n (kAt n u l l.length) = y) := ⟨_, rfl⟩
      rw [hV.out] at hin
      rw [hW.out] at hwt
      rw [hy.out] at hwy
      have hBH := Lib.hid hB
      clear hS hC hOk hKI
      go_wp2_with fail
      refine hin.out.mono ?_
      rintro e w4 ⟨rfl, rfl⟩
      go_wp2_with fail
      refine hwt.out.mono ?_
      rintro e w4 ⟨rfl, rfl⟩
      go_wp2_with fail
      refine hwy.out.mono ?_
      rintro e w6 ⟨rfl, hB6⟩
      have hC6 : CodRow w6 gc l.length (codeK n u l) := Row.below hC0 hB6 (Row.lt hC0)
      have hBz := hBH.out.trans (hB6.mono hszr)
      have hR6 := hR1.below hBz (by omega)
      clear hC0 hB6 hR1 hBH hin hwt hwy
      have r0 := hR6.cell (i := 0) (by simp)
      have r1 := hR6.cell (i := 1) (by simp)
      have r2 := hR6.cell (i := 2) (by simp)
      have r3 := hR6.cell (i := 3) (by simp)
      have f0 := hR6.frozen 0
      have f1 := hR6.frozen 1
      have f2 := hR6.frozen 2
      have f3 := hR6.frozen 3
      simp only [List.getElem_cons_zero, List.getElem_cons_succ] at r0 r1 r2 r3
      have hCH := Lib.hid hC6
      have hRH := Lib.hid hR6
      clear hC6 hR6
      go_wp2_with fail
      have hR7 := (((hRH.out.set 0 (.slice (some ⟨gc, 0, none⟩) l.length l.length)).set 1 (.int .u32 (V : Int))).set 2 (.int .u32 (W : Int))).set 3 (.int .i64 y)
      have hB7 : Below w.heap.size w ((((w6.setCell ⟨w.heap.size, 0, none⟩ (.slice (some ⟨gc, 0, none⟩) l.length l.length)).setCell ⟨w.heap.size, 1, none⟩ (.int .u32 (V : Int))).setCell ⟨w.heap.size, 2, none⟩ (.int .u32 (W : Int))).setCell ⟨w.heap.size, 3, none⟩ (.int .i64 y)) :=
        ((((hB1.trans (hBz.mono (by omega))).setCell (p := ⟨w.heap.size, 0, none⟩) (Nat.le_refl _) _).setCell (p := ⟨w.heap.size, 1, none⟩) (Nat.le_refl _) _).setCell (p := ⟨w.heap.size, 2, none⟩) (Nat.le_refl _) _).setCell (p := ⟨w.heap.size, 3, none⟩) (Nat.le_refl _) _
      have hgne : gc ≠ w.heap.size := by have := hlowG.out; omega
      have hC7 : CodRow ((((w6.setCell ⟨w.heap.size, 0, none⟩ (.slice (some ⟨gc, 0, none⟩) l.length l.length)).setCell ⟨w.heap.size, 1, none⟩ (.int .u32 (V : Int))).setCell ⟨w.heap.size, 2, none⟩ (.int .u32 (W : Int))).setCell ⟨w.heap.size, 3, none⟩ (.int .i64 y)) gc l.length (codeK n u l) := Row.block hCH.out (by
        rw [Below.heap_setCell _ _ _ gc hgne, Below.heap_setCell _ _ _ gc hgne, Below.heap_setCell _ _ _ gc hgne, Below.heap_setCell _ _ _ gc hgne])
      generalize (((w6.setCell ⟨w.heap.size, 0, none⟩ (.slice (some ⟨gc, 0, none⟩) l.length l.length)).setCell ⟨w.heap.size, 1, none⟩ (.int .u32 (V : Int))).setCell ⟨w.heap.size, 2, none⟩ (.int .u32 (W : Int))).setCell ⟨w.heap.size, 3, none⟩ (.int .i64 y) = w7 at *
      have q0 := hR7.cell (i := 0) (by simp)
      have q1 := hR7.cell (i := 1) (by simp)
      have q2 := hR7.cell (i := 2) (by simp)
      have q3 := hR7.cell (i := 3) (by simp)
      simp at q0 q1 q2 q3
      (try simp only [Exit.inBlock, Exit.then])
      refine bodyPost_ret (v := .tuple #[ttVal gc l.length V W y, .int .i64 0]) ?_ rfl ⟨gc, by rw [hV.out, hW.out, hy.out], hC7, by have := hlowG.out; omega, hB7⟩
      clear hC7 hR7 hB7 hB1 hBz
      rw [results_cell_tmp rfl]
      unfold ttVal
      go_simp

#print axioms play_no
#print axioms play_ok
end Go.Proofs.Ytejckoffllhjcaa
