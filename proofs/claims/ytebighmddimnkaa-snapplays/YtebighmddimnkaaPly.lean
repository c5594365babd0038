/-
  The contract of snap.Play.
-/
import Derived.Test.YtebighmddimnkaaExe
import Derived.Test.YtebighmddimnkaaSta
import Derived.Test.YtebighmddimnkaaWya
import Derived.Laws.ResultCell
namespace Go.Proofs.Ytebighmddimnkaa
open Go.RowKit Go.Maps

theorem infoErr : (Try.prog.info? 28).map (fun i => (i.zero, i.size, i.bytes)) = some (some (.int .i64 0), 1, 8) := by kernel_rfl
def CodRow (w : World) (g len : Nat) (c : Nat → Int) : Prop := Row w g 28 (intRow c len)
section
variable {w w' : World} {g len : Nat} {c c' : Nat → Int}
theorem CodRow.at_ (h : CodRow w g len c) {j : Nat} (hj : j < len) : w.cell? ⟨g, j, none⟩ = some (.int .i64 (c j)) := by
  rw [Row.cell h (by rw [intRow_len]; exact hj), intRow_get c hj]
theorem CodRow.put (h : CodRow w g len c) (j : Nat) (v : Int) : CodRow (w.setCell ⟨g, j, none⟩ (.int .i64 v)) g len (updI c j v) := by
  have := Row.set h j (.int .i64 v)
  rw [intRow_set] at this
  exact this
theorem CodRow.congr (h : CodRow w g len c) (e : ∀ j, j < len → c j = c' j) : CodRow w g len c' := by
  unfold CodRow at *
  rw [← intRow_congr e]; exact h
end
theorem Sys.err {w : World} {B s n P M : Nat} {ch : Nat → Nat → Nat} {S : St} (h : Sys w B s n P M ch S) {g : Nat} {xs : List Value} (hr : Row w g 28 xs) (k : Nat) (v : Value) : Sys (w.setCell ⟨g, k, none⟩ v) B s n P M ch S := by
  obtain ⟨vs, h⟩ := h
  obtain ⟨ys, hP, hP2⟩ := h.prs
  refine ⟨vs, h.sys.far (h.sys.ne hr (by decide)) v, ⟨ys, hP.far (hP.ne hr (by decide)) v, hP2⟩, h.map.far (h.map.ne_row hr) v, fun i j hc => (h.chn i j hc).far ((h.chn i j hc).ne hr (by decide)) v, fun i j hc => (h.que i j hc).far ((h.que i j hc).ne_row hr (by decide)) v, h.inj, h.apart, h.lowS, h.lowP, h.lowM, h.lowC⟩

def snpVal (gc len : Nat) (D : Bool) (gk T n : Nat) : Value := .agg #[.slice (some ⟨gc, 0, none⟩) len len, .bool D, .slice (some ⟨gk, 0, none⟩) n n, .slice (some ⟨T, 0, none⟩) n n]
/-- What Play returns, in memory. -/
structure SnpOut (w : World) (B n : Nat) (l : List Mv) (gc gk T : Nat) (rw : Nat → Nat) : Prop where
  cod : CodRow w gc l.length (codeAt n l)
  kep : IntRow w gk n (stAt n l l.length).kp
  way : Grd w B T n n rw (stAt n l l.length).wy
  lowC : B ≤ gc
  lowK : B ≤ gk
theorem SnpOut.blocks {w w' : World} {B n : Nat} {l : List Mv} {gc gk T : Nat} {rw : Nat → Nat} (h : SnpOut w B n l gc gk T rw) (hb : ∀ g, B ≤ g → g < w.heap.size → w'.heap[g]? = w.heap[g]?) : SnpOut w' B n l gc gk T rw :=
  ⟨Row.block h.cod (hb gc h.lowC (Row.lt h.cod)), Row.block h.kep (hb gk h.lowK (Row.lt h.kep)), h.way.blocks hb, h.lowC, h.lowK⟩
theorem SnpOut.below {w w' : World} {B n : Nat} {l : List Mv} {gc gk T : Nat} {rw : Nat → Nat} (h : SnpOut w B n l gc gk T rw) (hb : Below w.heap.size w w') : SnpOut w' B n l gc gk T rw := h.blocks fun g _ hg => hb.block g hg
theorem SnpOut.alloc {w : World} {B n : Nat} {l : List Mv} {gc gk T : Nat} {rw : Nat → Nat} (h : SnpOut w B n l gc gk T rw) (o : Obj) : SnpOut (w.alloc o) B n l gc gk T rw := h.blocks fun g _ hg => Below.heap_alloc w o g hg
def PlyRes (w : World) (n : Nat) (l : List Mv) (e : Ending) (w' : World) : Prop :=
  ∃ gc gk T rw D, e = .returned (.tuple #[snpVal gc l.length D gk T n, .int .i64 0]) ∧ (D = true ↔ DoneS n (stAt n l l.length)) ∧ SnpOut w' w.heap.size n l gc gk T rw ∧ Below w.heap.size w w'

set_option maxHeartbeats 800000 in
theorem play_no (A : Option Addr) (cap : Nat) (l : List Mv) (n : Int) (w : World) (hl : l.length ≤ maxLen) (h : ¬ Plays n l.length) :
    Calls Try.prog 7 #[.int .i64 n, .slice A l.length cap] w fun e w' => e = .returned (.tuple #[.agg #[.slice none 0 0, .bool false, .slice none 0 0, .slice none 0 0], .int .i64 1]) ∧ Below w.heap.size w w' := by
  have hB1 := (Below.refl w.heap.size w).alloc (Nat.le_refl _) (.cells #[.slice none 0 0, .bool false, .slice none 0 0, .slice none 0 0] 27)
  have hh : n < 1 ∨ 6 < n ∨ 60 < (l.length : Int) := by
    unfold Plays at h
    omega
  clear h
  have hl2 : (l.length : Int) ≤ 9223372036854775807 := by unfold maxLen at hl; omega
  by_cases h1 : n < 1
  · go_enter Try.func7, Try.ntmps7
    go_wp2_with fail
    (try simp only [Exit.inBlock, Exit.then])
    refine bodyPost_ret (v := .tuple #[.agg #[.slice none 0 0, .bool false, .slice none 0 0, .slice none 0 0], .int .i64 1]) ?_ rfl ⟨rfl, hB1⟩
    rw [results_cell_tmp rfl]
    go_simp
  · by_cases h2 : 6 < n
    · go_enter Try.func7, Try.ntmps7
      go_wp2_with fail
      (try simp only [Exit.inBlock, Exit.then])
      refine bodyPost_ret (v := .tuple #[.agg #[.slice none 0 0, .bool false, .slice none 0 0, .slice none 0 0], .int .i64 1]) ?_ rfl ⟨rfl, hB1⟩
      rw [results_cell_tmp rfl]
      go_simp
    · have h3 : 60 < (l.length : Int) := by omega
      go_enter Try.func7, Try.ntmps7
      go_wp2_with fail
      (try simp only [Exit.inBlock, Exit.then])
      refine bodyPost_ret (v := .tuple #[.agg #[.slice none 0 0, .bool false, .slice none 0 0, .slice none 0 0], .int .i64 1]) ?_ rfl ⟨rfl, hB1⟩
      rw [results_cell_tmp rfl]
      go_simp

def PlyRel (w1 : World) (B s n P M : Nat) (ch : Nat → Nat → Nat) (l : List Mv) (gc k : Nat) (wr : World) : Prop :=
  Sys wr B s n P M ch (stAt n l k) ∧ CodRow wr gc l.length (fun i => if i < k then codeAt n l i else 0) ∧ Below B w1 wr

set_option maxHeartbeats 8000000 in
set_option maxRecDepth 100000 in
theorem play_ok (A : Option Addr) (cap : Nat) (l : List Mv) (n : Nat) (w : World) (hE : Mvs w w.heap.size A l) (hF : MFits l) (h : Plays (n : Int) l.length) :
    Calls Try.prog 7 #[.int .i64 (n : Int), .slice A l.length cap] w (PlyRes w n l) := by
  obtain ⟨h1, h2, h3⟩ := h
  have hn : n ≤ 6 := by omega
  have hl60 : (l.length : Int) ≤ 60 := by omega
  have hB1 := (Below.refl w.heap.size w).alloc (Nat.le_refl _) (.cells #[.slice none 0 0, .bool false, .slice none 0 0, .slice none 0 0] 27)
  have hR1 := Row.made w 27 [.slice none 0 0, .bool false, .slice none 0 0, .slice none 0 0]
  have hE1 := hE.below hB1
  have hsz1 : (w.alloc (.cells #[.slice none 0 0, .bool false, .slice none 0 0, .slice none 0 0] 27)).heap.size = w.heap.size + 1 := by simp
  obtain ⟨j0, hi0, hz0, hz1, hz2⟩ := info_parts infoErr
  have hJi := Lib.hid hi0; have hJz := Lib.hid hz0; have hJs := Lib.hid hz1
  have b2 : j0.bytes * l.length ≤ 281474976710656 := by rw [hz2]; omega
  have hFH := Lib.hid hF
  have hEH := Lib.hid hE1
  clear hi0 hz0 hz1 hz2 hF hE hE1
  go_enter Try.func7, Try.ntmps7
  go_wp2_with fail
  refine (start_any _ n hn).mono ?_
  rintro e w2 ⟨s, P, M, ch, rfl, hS2, hB2⟩
  generalize hw1 : w.alloc (.cells #[.slice none 0 0, .bool false, .slice none 0 0, .slice none 0 0] 27) = w1 at *
  clear hw1
  generalize hBB : w1.heap.size = B at *
  have hszB2 := hB2.size
  rw [hBB] at hszB2
  have hS2H := Lib.hid hS2
  have hBBH := Lib.hid hBB
  clear hBB hS2
  go_wp2_with (first
    | (at_make; refine wpList_make_row _ rfl _ _ 23 rfl 28 j0 (.int .i64 0) Try.underlying23 hJi.out hJz.out hJs.out rfl .i64 .i64 _ _ l.length rfl rfl rfl rfl b2 (by unfold maxLen; omega) ?_; intro w3 hR3 hG3
       have hrel3 : PlyRel w1 B s n P M ch l w2.heap.size 0 w3 := (by
         refine ⟨?_, ?_, hB2.grown hG3 (by omega) (by simp)⟩
         · obtain ⟨vs, hA⟩ := hS2H.out
           exact ⟨vs, hA.blocks fun g _ hg => hG3.block g hg (by simp)⟩
         · rw [intRow_zero] at hR3
           exact CodRow.congr hR3 (fun j _ => by simp))
       clear hR3 hG3 hB2 hS2H))
  generalize w2.heap.size = gc at *
  go_loopw [29] (fun t wr => ∃ k : Nat, k ≤ l.length ∧ t = .int .i64 k ∧ PlyRel w1 B s n P M ch l gc k wr) (fun t _ => l.length - (intOf t).toNat)
  case atStart => exact ⟨0, Nat.zero_le _, rfl, hrel3⟩
  case round =>
    clear hrel3
    obtain ⟨k, hk, rfl, hS, hC, hB⟩ := hrel
    have hszr : B ≤ wr.heap.size := by have := hB.size; rw [hBBH.out] at this; exact this
    by_cases hlt : k < l.length
    · have hkI : (k : Int) < (l.length : Int) := by omega
      obtain ⟨b, off, rfl, hb, hc⟩ := (hEH.out.below (hB.mono (by omega))) (by omega)
      obtain ⟨c0, c1, c2, c3⟩ := hc k hlt
      clear hc
      have hmv := Lib.hid (mv_get l hlt)
      rw [mv_get l hlt] at c0 c1 c2 c3
      have hfit := Lib.hid (hFH.out.at_ hlt)
      have hstep : Hid (stAt n l (k + 1) = (stepS n (stAt n l k) (mv l k)).1) := rfl
      have hcode : Hid (codeAt n l k = (stepS n (stAt n l k) (mv l k)).2) := rfl
      have hinv := Lib.hid (SInv.at_ n l k)
      have hlen : Hid (∀ a b, ((stAt n l k).q a b).length ≤ 900) := fun a b => Nat.le_trans (stAt_len n l k a b) (by omega)
      have hcl := code_le n (stAt n l k) (mv l k)
      generalize mv l k = m at *
      have hSa := hS.alloc (.cells #[.int .i64 m.k, .int .i64 m.f, .int .i64 m.t, .int .i64 m.v] 39)
      have hCa := Row.alloc hC (.cells #[.int .i64 m.k, .int .i64 m.f, .int .i64 m.t, .int .i64 m.v] 39)
      have hBa := hB.alloc hszr (.cells #[.int .i64 m.k, .int .i64 m.f, .int .i64 m.t, .int .i64 m.v] 39)
      clear hS hC hB hmv
      have hcall := Lib.hid (execute_any _ B s n P M ch (stAt n l k) hSa m hfit.out hinv.out hn hlen.out)
      unfold mvVal at hcall
      generalize (stepS n (stAt n l k) m).1 = S2 at *
      generalize (stepS n (stAt n l k) m).2 = cd at *
      obtain ⟨mk, mf, mt, mv'⟩ := m
      simp only at *
      clear hSa
      go_wp2_with fail
      refine hcall.out.mono ?_
      rintro e w5 ⟨rfl, hS5, hB5⟩
      have hC5 := hB5.err _ _ hCa
      have hB6 := hBa.trans hB5.low
      clear hCa hBa hB5 hcall
      have x1 := CodRow.at_ hC5 hlt
      have xf := Row.frozen hC5 k
      have hS7 := hS5.err hC5 k (.int .i64 cd)
      have hC7 := CodRow.put hC5 k cd
      have hB7 : Below B w1 (w5.setCell ⟨gc, k, none⟩ (.int .i64 cd)) := hB6.setCell (p := ⟨gc, k, none⟩) (by omega) _
      have hrel7 : Hid (PlyRel w1 B s n P M ch l gc (k + 1) (w5.setCell ⟨gc, k, none⟩ (.int .i64 cd))) := ⟨by rw [hstep.out]; exact hS7, hC7.congr (fun j _ => by
        unfold updI
        by_cases e : j = k
        · subst e; rw [if_pos rfl, if_pos (by omega), hcode.out]
        · rw [if_neg e]
          show (if j < k then codeAt n l j else 0) = _
          by_cases h1 : j < k
          · rw [if_pos h1, if_pos (by omega)]
          · rw [if_neg h1, if_neg (by omega)]), hB7⟩
      clear hS7 hC7 hB7 hS5 hC5 hB6
      go_wp2_with fail
      go_roundw
      case rel => exact ⟨k + 1, by omega, by go_num, hrel7.out⟩
      case measure => simp [intOf]; omega
    · have hkl : k = l.length := by omega
      rw [hkl] at hS hC hlt hk
      subst hkl
      have hC0 : CodRow wr gc l.length (codeAt n l) := hC.congr (fun j hj => by rw [if_pos hj])
      have hinv := SInv.at_ n l l.length
      have hwd := Lib.hid hinv.wd
      clear hC hinv
      obtain ⟨D, hD⟩ : ∃ D : Bool, D = true ↔ DoneS n (stAt n l l.length) := by
        classical
        exact ⟨decide (DoneS n (stAt n l l.length)), by simp⟩
      have hDH := Lib.hid hD
      clear hD
      have hSH := Lib.hid hS
      clear hS
      go_wp2_with fail
      refine (done_any wr B s n P M ch _ hSH.out hn D hDH.out).mono ?_
      rintro e w4 ⟨rfl, hB4⟩
      have hS4 := Lib.hid (hSH.out.below hB4)
      have hC4 : CodRow w4 gc l.length (codeAt n l) := Row.below hC0 hB4 (Row.lt hC0)
      have hBx := hB.trans (hB4.mono hszr)
      have hszx : B ≤ w4.heap.size := Nat.le_trans hszr hB4.size
      clear hC0 hB4 hB hSH
      go_wp2_with fail
      refine (kept_any w4 B s n P M ch _ hS4.out hn).mono ?_
      rintro e w5 ⟨gk, rfl, hK5, hgk, hB5⟩
      have hS5 := Lib.hid (hS4.out.below hB5)
      have hC5 : CodRow w5 gc l.length (codeAt n l) := Row.below hC4 hB5 (Row.lt hC4)
      have hBy := hBx.trans (hB5.mono hszx)
      have hszy : B ≤ w5.heap.size := Nat.le_trans hszx hB5.size
      clear hC4 hB5 hBx hS4
      go_wp2_with fail
      refine (way_any w5 B s n P M ch _ hS5.out hn hwd.out).mono ?_
      rintro e w6 ⟨T, rw, rfl, hG6, hB6⟩
      have hC6 : CodRow w6 gc l.length (codeAt n l) := Row.below hC5 hB6 (Row.lt hC5)
      have hK6 : IntRow w6 gk n (stAt n l l.length).kp := Row.below hK5 hB6 (Row.lt hK5)
      have hBz := hBy.trans (hB6.mono hszy)
      have hR6 := hR1.below hBz (by omega)
      clear hC5 hB6 hBy hS5 hK5 hR1
      have r0 := hR6.cell (i := 0) (by simp)
      have r1 := hR6.cell (i := 1) (by simp)
      have r2 := hR6.cell (i := 2) (by simp)
      have r3 := hR6.cell (i := 3) (by simp)
      have f0 := hR6.frozen 0
      have f1 := hR6.frozen 1
      have f2 := hR6.frozen 2
      have f3 := hR6.frozen 3
      simp only [List.getElem_cons_zero, List.getElem_cons_succ] at r0 r1 r2 r3
      have hCH := Lib.hid hC6
      have hKH := Lib.hid hK6
      have hGH := Lib.hid hG6
      have hRH := Lib.hid hR6
      clear hC6 hK6 hG6 hR6
      go_wp2_with fail
      have hR7 := (((hRH.out.set 0 (.slice (some ⟨gc, 0, none⟩) l.length l.length)).set 1 (.bool D)).set 2 (.slice (some ⟨gk, 0, none⟩) n n)).set 3 (.slice (some ⟨T, 0, none⟩) n n)
      have hB7 : Below w.heap.size w ((((w6.setCell ⟨w.heap.size, 0, none⟩ (.slice (some ⟨gc, 0, none⟩) l.length l.length)).setCell ⟨w.heap.size, 1, none⟩ (.bool D)).setCell ⟨w.heap.size, 2, none⟩ (.slice (some ⟨gk, 0, none⟩) n n)).setCell ⟨w.heap.size, 3, none⟩ (.slice (some ⟨T, 0, none⟩) n n)) :=
        ((((hB1.trans (hBz.mono (by omega))).setCell (p := ⟨w.heap.size, 0, none⟩) (Nat.le_refl _) _).setCell (p := ⟨w.heap.size, 1, none⟩) (Nat.le_refl _) _).setCell (p := ⟨w.heap.size, 2, none⟩) (Nat.le_refl _) _).setCell (p := ⟨w.heap.size, 3, none⟩) (Nat.le_refl _) _
      have hout : SnpOut w6 (w.heap.size + 1) n l gc gk T rw := ⟨hCH.out, hKH.out, hGH.out.low (by omega), by omega, by omega⟩
      have hout7 : SnpOut ((((w6.setCell ⟨w.heap.size, 0, none⟩ (.slice (some ⟨gc, 0, none⟩) l.length l.length)).setCell ⟨w.heap.size, 1, none⟩ (.bool D)).setCell ⟨w.heap.size, 2, none⟩ (.slice (some ⟨gk, 0, none⟩) n n)).setCell ⟨w.heap.size, 3, none⟩ (.slice (some ⟨T, 0, none⟩) n n)) (w.heap.size + 1) n l gc gk T rw := hout.blocks fun g hg _ => by
        have hne : g ≠ w.heap.size := by omega
        rw [Below.heap_setCell _ _ _ g hne, Below.heap_setCell _ _ _ g hne, Below.heap_setCell _ _ _ g hne, Below.heap_setCell _ _ _ g hne]
      generalize (((w6.setCell ⟨w.heap.size, 0, none⟩ (.slice (some ⟨gc, 0, none⟩) l.length l.length)).setCell ⟨w.heap.size, 1, none⟩ (.bool D)).setCell ⟨w.heap.size, 2, none⟩ (.slice (some ⟨gk, 0, none⟩) n n)).setCell ⟨w.heap.size, 3, none⟩ (.slice (some ⟨T, 0, none⟩) n n) = w7 at *
      have hout8 : SnpOut w7 w.heap.size n l gc gk T rw := ⟨hout7.cod, hout7.kep, hout7.way.low (by omega), by have := hout7.lowC; omega, by have := hout7.lowK; omega⟩
      have q0 := hR7.cell (i := 0) (by simp)
      have q1 := hR7.cell (i := 1) (by simp)
      have q2 := hR7.cell (i := 2) (by simp)
      have q3 := hR7.cell (i := 3) (by simp)
      simp at q0 q1 q2 q3
      (try simp only [Exit.inBlock, Exit.then])
      refine bodyPost_ret (v := .tuple #[snpVal gc l.length D gk T n, .int .i64 0]) ?_ rfl ⟨gc, gk, T, rw, D, rfl, hDH.out, hout8, hB7⟩
      clear hout hout7 hout8 hR7 hB7 hB1 hBz
      rw [results_cell_tmp rfl]
      unfold snpVal
      go_simp

#print axioms play_no
#print axioms play_ok
end Go.Proofs.Ytebighmddimnkaa
