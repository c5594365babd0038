/-
  The walk of the law CausalPlays, over any contract of the document's side.
-/
import Derived.Test.YtkchccaeopdemaaCpl
import Derived.Test.YtkchccaeopdemaaRcw
namespace Go.Proofs.Ytkchccaeopdemaa
open Go.RowKit Go.Maps

theorem toldL_len (n : Nat) (S : CS) : (toldL n S).length = n := by simp [toldL]

set_option maxHeartbeats 1000000 in
theorem cplays_no (w : World) (n : Int) (A : Option Addr) (cap : Nat) (l : List Mv) (hl : l.length ≤ maxLen) (h0 : ¬ Plays n l.length) :
    Calls Try.prog 3 #[.int .i64 n, .slice A l.length cap] w fun e w' => e = .returned (.bool true) ∧ Below w.heap.size w w' := by
  have h0H := Lib.hid h0
  have hno : Hid (¬ (1 ≤ n ∧ n ≤ 6 ∧ (l.length : Int) ≤ 60)) := fun h => h0 ⟨h.1, h.2.1, by omega⟩
  clear h0
  go_enter Try.func3, Try.ntmps3
  go_wp2_with fail
  refine (play_no A cap l n _ hl h0H.out).mono ?_
  rintro e w1 ⟨rfl, hB1⟩
  have hB2 := hB1.alloc hB1.size (.cells #[.slice none 0 0, .slice none 0 0] 26)
  have hR2 := Row.made w1 26 [.slice none 0 0, .slice none 0 0]
  clear hB1
  go_wp2_with fail
  generalize w1.alloc (.cells #[.slice none 0 0, .slice none 0 0] 26) = w2 at *
  generalize w1.heap.size = b1 at *
  refine (playcheck_any w2 n (l.length : Int) 1 (by rw [if_neg hno.out])).mono ?_
  rintro e w3 ⟨rfl, rfl⟩
  have hB4 := hB2.alloc hB2.size (.cells #[.slice none 0 0, .slice none 0 0] 26)
  have hR4 := Row.made w3 26 [.slice none 0 0, .slice none 0 0]
  have hR5 := hR2.alloc (.cells #[.slice none 0 0, .slice none 0 0] 26)
  clear hB2 hR2
  have y0 := hR5.cell (i := 0) (by simp)
  have z0 := hR4.cell (i := 0) (by simp)
  simp only [List.getElem_cons_zero] at y0 z0
  go_wp2_with fail
  generalize w3.alloc (.cells #[.slice none 0 0, .slice none 0 0] 26) = w4 at *
  generalize w3.heap.size = b2 at *
  refine (codes_same none none 0 0 [] w4 (fun h => absurd h (by simp)) (fun h => absurd h (by simp)) (by simp)).mono ?_
  rintro e w5 ⟨rfl, hB5⟩
  have hB6 := hB4.trans (hB5.mono hB4.size)
  have hRa := hR5.below hB5 hR5.lt
  have hRb := hR4.below hB5 hR4.lt
  clear hB4 hB5 hR4 hR5 y0 z0
  have y1 := hRa.cell (i := 1) (by simp)
  have z1 := hRb.cell (i := 1) (by simp)
  simp only [List.getElem_cons_zero, List.getElem_cons_succ] at y1 z1
  go_wp2_with fail
  refine (lists_same none none 0 0 [] w5 (fun h => absurd h (by simp)) (fun h => absurd h (by simp)) (by simp) (by simp)).mono ?_
  rintro e w7 ⟨rfl, hB9⟩
  have hBf := hB6.trans (hB9.mono hB6.size)
  clear hB6 hB9 hRa hRb y1 z1
  go_wp2_with fail
  go_ret
  exact ⟨rfl, hBf⟩

set_option maxHeartbeats 4000000 in
set_option maxRecDepth 100000 in
theorem cplays_ok (w : World) (n : Nat) (A : Option Addr) (cap : Nat) (l : List Mv) (hE : Mvs w w.heap.size A l) (hF : MFits l) (h0 : Plays (n : Int) l.length)
    (href : ∀ W, Mvs W W.heap.size A l → Calls Try.prog 9 #[.int .i64 (n : Int), .slice A l.length cap] W (RcRes W n l)) :
    Calls Try.prog 3 #[.int .i64 (n : Int), .slice A l.length cap] w fun e w' => e = .returned (.bool true) ∧ Below w.heap.size w w' := by
  have h60 := h0.2.2
  have hn : n ≤ 6 := by have := h0.2.1; omega
  have h0H := Lib.hid h0
  have hsH := Lib.hid href
  have hyes : Hid (1 ≤ (n : Int) ∧ (n : Int) ≤ 6 ∧ (l.length : Int) ≤ 60) := ⟨h0.1, h0.2.1, by omega⟩
  have hEH := Lib.hid hE
  have hFH := Lib.hid hF
  clear h0 href hE hF
  go_enter Try.func3, Try.ntmps3
  go_wp2_with fail
  refine (play_ok A cap l n _ hEH.out hFH.out h0H.out).mono ?_
  rintro e w1 ⟨gc, T, rfl, hC1, hT1, hB1⟩
  unfold hrdVal
  have hR2 := Row.made w1 26 [.slice (some ⟨gc, 0, none⟩) l.length l.length, .slice (some ⟨T, 0, none⟩) n n]
  have hb1 := (Below.refl w1.heap.size w1).alloc (Nat.le_refl _) (.cells #[.slice (some ⟨gc, 0, none⟩) l.length l.length, .slice (some ⟨T, 0, none⟩) n n] 26)
  have hB2 := hB1.alloc hB1.size (.cells #[.slice (some ⟨gc, 0, none⟩) l.length l.length, .slice (some ⟨T, 0, none⟩) n n] 26)
  have hBw : Hid (w.heap.size ≤ w1.heap.size) := hB1.size
  clear hB1 h0H
  go_wp2_with fail
  have hsz2 : w1.heap.size < (w1.alloc (.cells #[.slice (some ⟨gc, 0, none⟩) l.length l.length, .slice (some ⟨T, 0, none⟩) n n] 26)).heap.size := by simp
  generalize w1.alloc (.cells #[.slice (some ⟨gc, 0, none⟩) l.length l.length, .slice (some ⟨T, 0, none⟩) n n] 26) = w2 at *
  refine (playcheck_any w2 n (l.length : Int) 0 (by rw [if_pos hyes.out])).mono ?_
  rintro e w3 ⟨rfl, rfl⟩
  have hB4 := hB2.alloc hB2.size (.cells #[.slice none 0 0, .slice none 0 0] 26)
  have hb4 := hb1.alloc hb1.size (.cells #[.slice none 0 0, .slice none 0 0] 26)
  have hR4 := Row.made w3 26 [.slice none 0 0, .slice none 0 0]
  have hR5 := hR2.alloc (.cells #[.slice none 0 0, .slice none 0 0] 26)
  have hE4 := (hEH.out.below hB4).more hB4.size
  have hsz4 : w3.heap.size < (w3.alloc (.cells #[.slice none 0 0, .slice none 0 0] 26)).heap.size := by simp
  clear hB2 hR2 hb1
  go_wp2_with fail
  generalize w3.alloc (.cells #[.slice none 0 0, .slice none 0 0] 26) = w4 at *
  generalize hb2 : w3.heap.size = b2 at *
  have hb12 : w1.heap.size < b2 := by omega
  clear hb2
  refine (hsH.out w4 hE4).mono ?_
  rintro e w5 ⟨Ac, cc, T5, o, C, vs, vh, cm, rfl, hR, hB5⟩
  have hB6 := hB4.trans (hB5.mono hB4.size)
  have hb6 := hb4.trans (hB5.mono hb4.size)
  have hRa := hR5.below hB5 hR5.lt
  have hRb := hR4.below hB5 hR4.lt
  have z0 := hRb.cell (i := 0) (by simp)
  have z1 := hRb.cell (i := 1) (by simp)
  have f0 := hRb.frozen 0
  have f1 := hRb.frozen 1
  simp only [List.getElem_cons_zero, List.getElem_cons_succ] at z0 z1
  have hne : ¬ b2 = w1.heap.size := by omega
  have hwb2 : w.heap.size ≤ b2 := by have := hBw.out; omega
  have hB7 : Below w.heap.size w ((w5.setCell ⟨b2, 0, none⟩ (.slice Ac l.length cc)).setCell ⟨b2, 1, none⟩ (.slice (some ⟨T5, 0, none⟩) n n)) :=
    (hB6.setCell (p := ⟨b2, 0, none⟩) hwb2 _).setCell (p := ⟨b2, 1, none⟩) hwb2 _
  have hb7 : Below w1.heap.size w1 ((w5.setCell ⟨b2, 0, none⟩ (.slice Ac l.length cc)).setCell ⟨b2, 1, none⟩ (.slice (some ⟨T5, 0, none⟩) n n)) :=
    (hb6.setCell (p := ⟨b2, 0, none⟩) (Nat.le_of_lt hb12) _).setCell (p := ⟨b2, 1, none⟩) (Nat.le_of_lt hb12) _
  have hRw := (hRb.set 0 (.slice Ac l.length cc)).set 1 (.slice (some ⟨T5, 0, none⟩) n n)
  have hRv := (hRa.far (p := ⟨b2, 0, none⟩) (fun e => hne e.symm) (.slice Ac l.length cc)).far (p := ⟨b2, 1, none⟩) (fun e => hne e.symm) (.slice (some ⟨T5, 0, none⟩) n n)
  have hR7 := hR.blocks (w' := (w5.setCell ⟨b2, 0, none⟩ (.slice Ac l.length cc)).setCell ⟨b2, 1, none⟩ (.slice (some ⟨T5, 0, none⟩) n n)) (fun g hg _ => by
    have hne : g ≠ b2 := by omega
    rw [Below.heap_setCell _ _ _ g hne, Below.heap_setCell _ _ _ g hne])
  have hL7 := Lib.hid hR7.lsts
  have hC7 := Lib.hid hR7.codes
  have hTw := Lib.hid ((hT1.within hb7).lsts)
  have hCw : Hid (Nums ((w5.setCell ⟨b2, 0, none⟩ (.slice Ac l.length cc)).setCell ⟨b2, 1, none⟩ (.slice (some ⟨T5, 0, none⟩) n n)) ((w5.setCell ⟨b2, 0, none⟩ (.slice Ac l.length cc)).setCell ⟨b2, 1, none⟩ (.slice (some ⟨T5, 0, none⟩) n n)).heap.size (some ⟨gc, 0, none⟩) (codesL n l l.length)) := (CodRow.nums hC1).below hb7 |>.more hb7.size
  have y0 := hRv.cell (i := 0) (by simp)
  have y1 := hRv.cell (i := 1) (by simp)
  have u0 := hRw.cell (i := 0) (by simp)
  have u1 := hRw.cell (i := 1) (by simp)
  simp at y0 y1 u0 u1
  have hltv := hRv.lt
  have hltw := hRw.lt
  have hRvH := Lib.hid hRv
  have hRwH := Lib.hid hRw
  have hB7H := Lib.hid hB7
  clear hRv hRw hB7
  clear hR hR7 hB4 hb4 hB5 hB6 hb6 hb7 hR4 hR5 hRa hC1 hT1 hE4
  go_wp2_with fail
  generalize (w5.setCell ⟨b2, 0, none⟩ (.slice Ac l.length cc)).setCell ⟨b2, 1, none⟩ (.slice (some ⟨T5, 0, none⟩) n n) = w7 at *
  have hcl : (codesL n l l.length).length = l.length := codesL_len n l l.length
  have hcs := Lib.hid (codes_same (some ⟨gc, 0, none⟩) Ac l.length cc (codesL n l l.length) w7 hCw.out hC7.out (by rw [hcl]; omega))
  rw [hcl] at hcs
  clear hcl
  refine hcs.out.mono ?_
  rintro e w8 ⟨rfl, hB8⟩
  have v1 : w8.cell? ⟨w1.heap.size, 1, none⟩ = some (.slice (some ⟨T, 0, none⟩) n n) := (hB8.cell (p := ⟨w1.heap.size, 1, none⟩) hltv).trans y1
  have v2 : w8.cell? ⟨b2, 1, none⟩ = some (.slice (some ⟨T5, 0, none⟩) n n) := (hB8.cell (p := ⟨b2, 1, none⟩) hltw).trans u1
  have hls := Lib.hid (lists_same (some ⟨T, 0, none⟩) (some ⟨T5, 0, none⟩) n n (toldL n (cAt n l l.length)) w8 (hTw.out.within hB8) (hL7.out.within hB8) (by rw [toldL_len]; omega) (fun x hx => by
    obtain ⟨a, _, rfl⟩ := List.mem_map.1 hx
    rw [zs_len]
    have := (cAt_len n l l.length a).1
    omega))
  rw [toldL_len] at hls
  have hB9 := hB7H.out.trans (hB8.mono hB7H.out.size)
  clear hcs hB8 y0 y1 u0 u1
  go_wp2_with fail
  refine hls.out.mono ?_
  rintro e w9 ⟨rfl, hBx⟩
  have hBf := hB9.trans (hBx.mono hB9.size)
  clear hB9 hBx
  go_wp2_with fail
  go_ret
  exact ⟨rfl, hBf⟩

#print axioms cplays_no
#print axioms cplays_ok
end Go.Proofs.Ytkchccaeopdemaa
