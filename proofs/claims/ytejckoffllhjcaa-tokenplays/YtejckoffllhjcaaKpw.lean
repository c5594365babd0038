/-
  The walk of the law TokenPlays, over any contract of beaconryref.Token.
-/
import Derived.Test.YtejckoffllhjcaaRkr
import Derived.Test.YtejckoffllhjcaaKtc
import Derived.Test.YtejckoffllhjcaaKcm
import Derived.Test.YtejckoffllhjcaaCoq
namespace Go.Proofs.Ytejckoffllhjcaa
open Go.RowKit Go.Maps
set_option linter.unusedVariables false

set_option maxHeartbeats 1600000 in
theorem sameK_any (w : World) (A1 A2 : Option Addr) (c1 c2 : Nat) (cs : List Int) (V W : Nat) (y : Int) (h1 : Nums w w.heap.size A1 cs) (h2 : Nums w w.heap.size A2 cs) (hl : cs.length ≤ 1000000) :
    Calls Try.prog 11 #[.agg #[.slice A1 cs.length c1, .int .u32 (V : Int), .int .u32 (W : Int), .int .i64 y], .agg #[.slice A2 cs.length c2, .int .u32 (V : Int), .int .u32 (W : Int), .int .i64 y]] w fun e w' => e = .returned (.bool true) ∧ Below w.heap.size w w' := by
  have hB1 := ((Below.refl w.heap.size w).alloc (Nat.le_refl _) (.cells #[.slice A1 cs.length c1, .int .u32 (V : Int), .int .u32 (W : Int), .int .i64 y] 27)).alloc (by simp) (.cells #[.slice A2 cs.length c2, .int .u32 (V : Int), .int .u32 (W : Int), .int .i64 y] 27)
  have hR1 := (Row.made w 27 [.slice A1 cs.length c1, .int .u32 (V : Int), .int .u32 (W : Int), .int .i64 y]).alloc (.cells #[.slice A2 cs.length c2, .int .u32 (V : Int), .int .u32 (W : Int), .int .i64 y] 27)
  have hR2 := Row.made (w.alloc (.cells #[.slice A1 cs.length c1, .int .u32 (V : Int), .int .u32 (W : Int), .int .i64 y] 27)) 27 [.slice A2 cs.length c2, .int .u32 (V : Int), .int .u32 (W : Int), .int .i64 y]
  have e1 : w.heap.size + 1 = (w.alloc (.cells #[.slice A1 cs.length c1, .int .u32 (V : Int), .int .u32 (W : Int), .int .i64 y] 27)).heap.size := by simp
  have hc := Lib.hid (codes_same A1 A2 c1 c2 cs _ (Nums.more (h1.below hB1) hB1.size) (Nums.more (h2.below hB1) hB1.size) hl)
  clear h1 h2
  have y0 := hR1.cell (i := 0) (by simp)
  have y1 := hR1.cell (i := 1) (by simp)
  have z0 := hR2.cell (i := 0) (by simp)
  simp only [List.getElem_cons_zero, List.getElem_cons_succ] at y0 y1 z0
  rw [← e1] at z0 hR2
  have hR1H := Lib.hid hR1
  have hR2H := Lib.hid hR2
  have hBH := Lib.hid hB1
  clear hR1 hR2 hB1 e1 hl
  go_enter Try.func11, Try.ntmps11
  go_wp2_with fail
  generalize (w.alloc (.cells #[.slice A1 cs.length c1, .int .u32 (V : Int), .int .u32 (W : Int), .int .i64 y] 27)).alloc (.cells #[.slice A2 cs.length c2, .int .u32 (V : Int), .int .u32 (W : Int), .int .i64 y] 27) = w2 at *
  refine hc.out.mono ?_
  rintro e w3 ⟨rfl, hB3⟩
  have hS3 := hR1H.out.below hB3 hR1H.out.lt
  have hT3 := hR2H.out.below hB3 hR2H.out.lt
  have hBz := Lib.hid (hBH.out.trans (hB3.mono hBH.out.size))
  clear y0 y1 z0 hc hB3 hBH hR1H hR2H
  have y1 := hS3.cell (i := 1) (by simp)
  have y2 := hS3.cell (i := 2) (by simp)
  have y3 := hS3.cell (i := 3) (by simp)
  have z1 := hT3.cell (i := 1) (by simp)
  have z2 := hT3.cell (i := 2) (by simp)
  have z3 := hT3.cell (i := 3) (by simp)
  simp only [List.getElem_cons_zero, List.getElem_cons_succ] at y1 y2 y3 z1 z2 z3
  have q2 : ((W : Int) == (W : Int)) = true := by simp
  have q1 : ((V : Int) == (V : Int)) = true := by simp
  have q3 : (y == y) = true := by simp
  clear hS3 hT3
  go_wp2_with fail
  go_ret
  exact ⟨by simp, hBz.out⟩

set_option maxHeartbeats 1600000 in
set_option maxRecDepth 100000 in
theorem kplays_no (w : World) (A0 : Option Addr) (cap0 : Nat) (ul : List Int) (hE0 : Nums w w.heap.size A0 ul) (hl0 : ul.length ≤ maxLen) (A : Option Addr) (cap : Nat) (l : List Mv) (hl : l.length ≤ maxLen) (h0 : checkK ul l.length ≠ 0) :
    Calls Try.prog 3 #[.slice A0 ul.length cap0, .slice A l.length cap] w fun e w' => e = .returned (.bool true) ∧ Below w.heap.size w w' := by
  have hp := Lib.hid (play_no A0 cap0 ul A cap l.length w hE0 hl0 hl h0)
  have hcb : (checkK ul l.length == 0) = false := by simpa using h0
  have hEH := Lib.hid hE0
  have hcE : Hid (checkK ul l.length = if 1 ≤ ul.length ∧ ul.length ≤ 6 ∧ l.length ≤ 60 then treeCode ul else 1) := rfl
  generalize checkK ul l.length = c at *
  clear h0 hE0
  unfold noVal at hp
  have qc : (c == c) = true := by simp
  go_enter Try.func3, Try.ntmps3
  go_wp2_with fail
  refine hp.out.mono ?_
  rintro e w1 ⟨rfl, hB1⟩
  have hR2 := Row.made w1 27 [.slice none 0 0, .int .u32 0, .int .u32 0, .int .i64 0]
  have hB2 := hB1.alloc hB1.size (.cells #[.slice none 0 0, .int .u32 0, .int .u32 0, .int .i64 0] 27)
  have hlt2 := hR2.lt
  clear hB1 hp
  go_wp2_with fail
  generalize w1.alloc (.cells #[.slice none 0 0, .int .u32 0, .int .u32 0, .int .i64 0] 27) = w2 at *
  generalize w1.heap.size = b1 at *
  by_cases hsz : 1 ≤ ul.length ∧ ul.length ≤ 6 ∧ l.length ≤ 60
  · have hc2 : treeCode ul = c := by have := hcE.out; rw [if_pos hsz] at this; exact this.symm
    refine (playcheck_any w2 (ul.length : Int) (l.length : Int) 0 (by rw [if_pos (by omega)])).mono ?_
    rintro e w3 ⟨rfl, rfl⟩
    have htc := treecheck_any w3 A0 cap0 ul ((hEH.out.below hB2).more hB2.size) hsz.2.1 (by omega)
    rw [hc2] at htc
    have htcH := Lib.hid htc
    clear htc hc2
    go_wp2_with fail
    refine htcH.out.mono ?_
    rintro e w3' ⟨rfl, rfl⟩
    clear htcH
    have hR3 := hR2.alloc (.cells #[.slice none 0 0, .int .u32 0, .int .u32 0, .int .i64 0] 27)
    have hR4 := Row.made w3 27 [.slice none 0 0, .int .u32 0, .int .u32 0, .int .i64 0]
    have hB4 := hB2.alloc hB2.size (.cells #[.slice none 0 0, .int .u32 0, .int .u32 0, .int .i64 0] 27)
    have y0 := hR3.cell (i := 0) (by simp)
    have y1 := hR3.cell (i := 1) (by simp)
    have y2 := hR3.cell (i := 2) (by simp)
    have y3 := hR3.cell (i := 3) (by simp)
    have z0 := hR4.cell (i := 0) (by simp)
    have z1 := hR4.cell (i := 1) (by simp)
    have z2 := hR4.cell (i := 2) (by simp)
    have z3 := hR4.cell (i := 3) (by simp)
    simp only [List.getElem_cons_zero, List.getElem_cons_succ] at y0 y1 y2 y3 z0 z1 z2 z3
    have hB4H := Lib.hid hB4
    clear hR2 hR3 hR4 hB2 hB4 hlt2
    go_wp2_with fail
    generalize w3.alloc (.cells #[.slice none 0 0, .int .u32 0, .int .u32 0, .int .i64 0] 27) = w4 at *
    generalize w3.heap.size = b2 at *
    have cC := sameK_any w4 none none 0 0 [] 0 0 0 (fun h => absurd h (by simp)) (fun h => absurd h (by simp)) (by simp)
    refine cC.mono ?_
    rintro e w5 ⟨rfl, hB5⟩
    have hBz := Lib.hid (hB4H.out.trans (hB5.mono hB4H.out.size))
    clear cC hB5 y0 y1 y2 y3 z0 z1 z2 z3
    go_wp2_with fail
    go_ret
    exact ⟨by simp, hBz.out⟩
  · have hc2 : c = 1 := by have := hcE.out; rw [if_neg hsz] at this; exact this
    subst hc2
    refine (playcheck_any w2 (ul.length : Int) (l.length : Int) 1 (by rw [if_neg (by omega)])).mono ?_
    rintro e w3 ⟨rfl, rfl⟩
    have hR3 := hR2.alloc (.cells #[.slice none 0 0, .int .u32 0, .int .u32 0, .int .i64 0] 27)
    have hR4 := Row.made w3 27 [.slice none 0 0, .int .u32 0, .int .u32 0, .int .i64 0]
    have hB4 := hB2.alloc hB2.size (.cells #[.slice none 0 0, .int .u32 0, .int .u32 0, .int .i64 0] 27)
    have y0 := hR3.cell (i := 0) (by simp)
    have y1 := hR3.cell (i := 1) (by simp)
    have y2 := hR3.cell (i := 2) (by simp)
    have y3 := hR3.cell (i := 3) (by simp)
    have z0 := hR4.cell (i := 0) (by simp)
    have z1 := hR4.cell (i := 1) (by simp)
    have z2 := hR4.cell (i := 2) (by simp)
    have z3 := hR4.cell (i := 3) (by simp)
    simp only [List.getElem_cons_zero, List.getElem_cons_succ] at y0 y1 y2 y3 z0 z1 z2 z3
    have hB4H := Lib.hid hB4
    clear hR2 hR3 hR4 hB2 hB4 hlt2
    go_wp2_with fail
    generalize w3.alloc (.cells #[.slice none 0 0, .int .u32 0, .int .u32 0, .int .i64 0] 27) = w4 at *
    generalize w3.heap.size = b2 at *
    have cC := sameK_any w4 none none 0 0 [] 0 0 0 (fun h => absurd h (by simp)) (fun h => absurd h (by simp)) (by simp)
    refine cC.mono ?_
    rintro e w5 ⟨rfl, hB5⟩
    have hBz := Lib.hid (hB4H.out.trans (hB5.mono hB4H.out.size))
    clear cC hB5 y0 y1 y2 y3 z0 z1 z2 z3
    go_wp2_with fail
    go_ret
    exact ⟨by simp, hBz.out⟩

set_option maxHeartbeats 8000000 in
set_option maxRecDepth 100000 in
theorem kplays_ok (w : World) (A0 : Option Addr) (cap0 : Nat) (ul : List Int) (hE0 : Nums w w.heap.size A0 ul) (hl0 : ul.length ≤ maxLen) (A : Option Addr) (cap : Nat) (l : List Mv) (hE : Mvs w w.heap.size A l) (hF : MFits l) (hl : l.length ≤ maxLen) (h0 : checkK ul l.length = 0)
    (hq : ∀ W : World, Nums W W.heap.size A0 ul → Mvs W W.heap.size A l → Calls Try.prog 10 #[.slice A0 ul.length cap0, .slice A l.length cap] W (RtkRes W ul.length (upN ul) l)) :
    Calls Try.prog 3 #[.slice A0 ul.length cap0, .slice A l.length cap] w fun e w' => e = .returned (.bool true) ∧ Below w.heap.size w w' := by
  obtain ⟨hs1, hs2, h60, -, -⟩ := checkK_ok h0
  have htc0 : treeCode ul = 0 := (checkK_iff.1 h0).2
  have hEH := Lib.hid hE
  have hUH := Lib.hid hE0
  have hqH := Lib.hid hq
  have hpH := Lib.hid (play_ok A0 cap0 ul A cap l w hE0 hl0 hE hF hl h0)
  clear h0 hE hF hq hE0
  go_enter Try.func3, Try.ntmps3
  go_wp2_with fail
  refine hpH.out.mono ?_
  rintro e w1 ⟨gc, rfl, hO1, hgc1, hB1⟩
  clear hpH
  unfold ttVal
  obtain ⟨V, hV⟩ : ∃ V, Hid (wordB ul.length (kAt ul.length (upN ul) l l.length).ins = V) := ⟨_, rfl⟩
  obtain ⟨W, hW⟩ : ∃ W, Hid (wordB ul.length (wantB (kAt ul.length (upN ul) l l.length)) = W) := ⟨_, rfl⟩
  obtain ⟨y, hy⟩ : ∃ y, Hid (wayK ul.length (kAt ul.length (upN ul) l l.length) = y) := ⟨_, rfl⟩
  rw [hV.out, hW.out, hy.out]
  have hR2 := Row.made w1 27 [.slice (some ⟨gc, 0, none⟩) l.length l.length, .int .u32 (V : Int), .int .u32 (W : Int), .int .i64 y]
  have hO2 := Row.alloc hO1 (.cells #[.slice (some ⟨gc, 0, none⟩) l.length l.length, .int .u32 (V : Int), .int .u32 (W : Int), .int .i64 y] 27)
  have hB2 := hB1.alloc hB1.size (.cells #[.slice (some ⟨gc, 0, none⟩) l.length l.length, .int .u32 (V : Int), .int .u32 (W : Int), .int .i64 y] 27)
  clear hB1 hO1 hgc1
  go_wp2_with fail
  generalize w1.alloc (.cells #[.slice (some ⟨gc, 0, none⟩) l.length l.length, .int .u32 (V : Int), .int .u32 (W : Int), .int .i64 y] 27) = w2 at *
  generalize w1.heap.size = b1 at *
  refine (playcheck_any w2 (ul.length : Int) (l.length : Int) 0 (by rw [if_pos (by omega)])).mono ?_
  rintro e w3 ⟨rfl, rfl⟩
  have htc := treecheck_any w3 A0 cap0 ul ((hUH.out.below hB2).more hB2.size) hs2 (by omega)
  rw [htc0] at htc
  have htcH := Lib.hid htc
  clear htc
  go_wp2_with fail
  refine htcH.out.mono ?_
  rintro e w3' ⟨rfl, rfl⟩
  clear htcH
  have hR4 := Row.made w3 27 [.slice none 0 0, .int .u32 0, .int .u32 0, .int .i64 0]
  have hS4 := hR2.alloc (.cells #[.slice none 0 0, .int .u32 0, .int .u32 0, .int .i64 0] 27)
  have hO4 := hO2.alloc (.cells #[.slice none 0 0, .int .u32 0, .int .u32 0, .int .i64 0] 27)
  have hB4 := hB2.alloc hB2.size (.cells #[.slice none 0 0, .int .u32 0, .int .u32 0, .int .i64 0] 27)
  have hE4 := Lib.hid ((hEH.out.below hB4).more hB4.size)
  have hU4 := Lib.hid ((hUH.out.below hB4).more hB4.size)
  have hb12 : b1 ≠ w3.heap.size := by have := hR2.lt; omega
  have hgb2 : gc ≠ w3.heap.size := by have := Row.lt hO2; omega
  have hlo : w.heap.size ≤ w3.heap.size := hB2.size
  clear hB2 hR2 hO2
  go_wp2_with fail
  generalize w3.alloc (.cells #[.slice none 0 0, .int .u32 0, .int .u32 0, .int .i64 0] 27) = w4 at *
  generalize w3.heap.size = b2 at *
  refine (hqH.out w4 hU4.out hE4.out).mono ?_
  rintro e w5 ⟨Ac, capc, he, hN2, hB5⟩
  rw [hV.out, hW.out, hy.out] at he
  subst he
  have hR5 := hR4.below hB5 hR4.lt
  have hS5 := hS4.below hB5 hS4.lt
  have hO5 := Row.below hO4 hB5 (Row.lt hO4)
  have hBe := hB4.trans (hB5.mono hB4.size)
  clear hR4 hS4 hO4 hB4 hB5 hE4 hU4
  have hWs : ∀ g, g ≠ b2 → ((((w5.setCell ⟨b2, 0, none⟩ (.slice Ac l.length capc)).setCell ⟨b2, 1, none⟩ (.int .u32 (V : Int))).setCell ⟨b2, 2, none⟩ (.int .u32 (W : Int))).setCell ⟨b2, 3, none⟩ (.int .i64 y)).heap[g]? = w5.heap[g]? := fun g hne => by
    rw [Below.heap_setCell _ _ _ g hne, Below.heap_setCell _ _ _ g hne, Below.heap_setCell _ _ _ g hne, Below.heap_setCell _ _ _ g hne]
  have hBf := Lib.hid ((((hBe.setCell (p := ⟨b2, 0, none⟩) hlo (.slice Ac l.length capc)).setCell (p := ⟨b2, 1, none⟩) hlo (.int .u32 (V : Int))).setCell (p := ⟨b2, 2, none⟩) hlo (.int .u32 (W : Int))).setCell (p := ⟨b2, 3, none⟩) hlo (.int .i64 y))
  have hN6 : OwnC ((((w5.setCell ⟨b2, 0, none⟩ (.slice Ac l.length capc)).setCell ⟨b2, 1, none⟩ (.int .u32 (V : Int))).setCell ⟨b2, 2, none⟩ (.int .u32 (W : Int))).setCell ⟨b2, 3, none⟩ (.int .i64 y)) w4.heap.size (.slice Ac l.length capc) (codesK ul.length (upN ul) l l.length) := ownsG_blk hN2 fun g e => hWs g fun e' => owns_ne_row hN2 hR5 (by decide) (e' ▸ e)
  have hO6 : CodRow ((((w5.setCell ⟨b2, 0, none⟩ (.slice Ac l.length capc)).setCell ⟨b2, 1, none⟩ (.int .u32 (V : Int))).setCell ⟨b2, 2, none⟩ (.int .u32 (W : Int))).setCell ⟨b2, 3, none⟩ (.int .i64 y)) gc l.length (codeK ul.length (upN ul) l) := Row.block hO5 (hWs gc hgb2)
  have hS6 := hS5.block (hWs b1 hb12)
  have hR6 := (((hR5.set 0 (.slice Ac l.length capc)).set 1 (.int .u32 (V : Int))).set 2 (.int .u32 (W : Int))).set 3 (.int .i64 y)
  simp only [List.set] at hR6
  have x0 := hR5.cell (i := 0) (by simp)
  have x1 := hR5.cell (i := 1) (by simp)
  have x2 := hR5.cell (i := 2) (by simp)
  have x3 := hR5.cell (i := 3) (by simp)
  have f0 := hR5.frozen 0
  have f1 := hR5.frozen 1
  have f2 := hR5.frozen 2
  have f3 := hR5.frozen 3
  have y0 := hS6.cell (i := 0) (by simp)
  have y1 := hS6.cell (i := 1) (by simp)
  have y2 := hS6.cell (i := 2) (by simp)
  have y3 := hS6.cell (i := 3) (by simp)
  have z0 := hR6.cell (i := 0) (by simp)
  have z1 := hR6.cell (i := 1) (by simp)
  have z2 := hR6.cell (i := 2) (by simp)
  have z3 := hR6.cell (i := 3) (by simp)
  simp only [List.getElem_cons_zero, List.getElem_cons_succ] at x0 x1 x2 x3 y0 y1 y2 y3 z0 z1 z2 z3
  have hN6H := Lib.hid hN6
  have hO6H := Lib.hid hO6
  clear hR5 hS5 hO5 hBe hN2 hWs hR6 hN6 hO6 hS6
  go_wp2_with fail
  generalize ((((w5.setCell ⟨b2, 0, none⟩ (.slice Ac l.length capc)).setCell ⟨b2, 1, none⟩ (.int .u32 (V : Int))).setCell ⟨b2, 2, none⟩ (.int .u32 (W : Int))).setCell ⟨b2, 3, none⟩ (.int .i64 y)) = w6 at *
  clear x0 x1 x2 x3 f0 f1 f2 f3 y0 y1 y2 y3 z0 z1 z2 z3
  have hcl := codesK_len ul.length (upN ul) l l.length
  obtain ⟨A', cap', hv, -, -, hN⟩ := hN6H.out.shape
  injection hv with e1 e2 e3
  subst e1 e3
  have cC := sameK_any w6 (some ⟨gc, 0, none⟩) Ac l.length capc (codesK ul.length (upN ul) l l.length) V W y (CodRow.nums hO6H.out) hN (by rw [hcl]; omega)
  rw [hcl] at cC
  clear hN e2
  refine cC.mono ?_
  clear cC
  rintro e w7 ⟨rfl, hB7⟩
  have hBz := Lib.hid (hBf.out.trans (hB7.mono hBf.out.size))
  clear hB7 hN6H hO6H hBf
  go_wp2_with fail
  go_ret
  exact ⟨by simp, hBz.out⟩

#print axioms kplays_no
#print axioms kplays_ok
end Go.Proofs.Ytejckoffllhjcaa
