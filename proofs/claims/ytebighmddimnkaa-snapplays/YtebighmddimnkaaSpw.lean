/-
  The walk of the law SnapPlays, over any contract of the document's side.
-/
import Derived.Test.YtebighmddimnkaaRfo
import Derived.Test.YtebighmddimnkaaPly
import Derived.Test.YtebighmddimnkaaPch
import Derived.Test.YtebighmddimnkaaLss
namespace Go.Proofs.Ytebighmddimnkaa
open Go.RowKit Go.Maps

theorem Row.mem {w : World} {g : Nat} {e : TypeId} {xs : List Value} (h : Row w g e xs) {i : Nat} {v : Value} (hc : w.cell? ⟨g, i, none⟩ = some v) : v ∈ xs := by
  unfold Row at h
  unfold World.cell? at hc
  simp only [h] at hc
  simp at hc
  exact List.mem_of_getElem? hc
def zeroS : List Value := [.slice none 0 0, .bool false, .slice none 0 0, .slice none 0 0]
def codeL (n : Nat) (l : List Mv) : List Int := (List.range l.length).map (codeAt n l)
def keptL (n : Nat) (S : St) : List Int := (List.range n).map S.kp
def wayL (n : Nat) (S : St) : List (List Int) := (List.range n).map fun i => (List.range n).map (S.wy i)
theorem codeL_len (n : Nat) (l : List Mv) : (codeL n l).length = l.length := by simp [codeL]
theorem keptL_len (n : Nat) (S : St) : (keptL n S).length = n := by simp [keptL]
theorem wayL_len (n : Nat) (S : St) : (wayL n S).length = n := by simp [wayL]
section
variable {w W : World} {b n : Nat} {l : List Mv}
theorem rsn_read {Ac : Option Addr} {gk Tw : Nat} {rw : Nat → Nat} (hR : Row w b 27 zeroS) (hW : ∀ g, g ≠ b → W.heap[g]? = w.heap[g]?) (hs : w.heap.size ≤ W.heap.size)
    (hN : Nums w w.heap.size Ac ((List.range l.length).map (codeAt n l))) (hK : IntRow w gk n (stAt n l l.length).kp)
    (hT : ∀ i, i < n → w.cell? ⟨Tw, i, none⟩ = some (.slice (some ⟨rw i, 0, none⟩) n n) ∧ Tw < w.heap.size ∧ IntRow w (rw i) n ((stAt n l l.length).wy i)) :
    Nums W W.heap.size Ac (codeL n l) ∧ Nums W W.heap.size (some ⟨gk, 0, none⟩) (keptL n (stAt n l l.length)) ∧ Lsts W W.heap.size (some ⟨Tw, 0, none⟩) (wayL n (stAt n l l.length)) := by
  have hcell : ∀ g i v, w.cell? ⟨g, i, none⟩ = some v → v ∉ zeroS → W.cell? ⟨g, i, none⟩ = some v := by
    intro g i v hc hv
    have hne : g ≠ b := by
      rintro rfl
      exact hv (hR.mem hc)
    have : W.cell? ⟨g, i, none⟩ = w.cell? ⟨g, i, none⟩ := by
      unfold World.cell?
      simp only [hW g hne]
    rw [this]; exact hc
  refine ⟨fun h0 => ?_, IntRow.nums (Row.block hK (hW _ (Row.ne hK hR (by decide)))), fun _ => ?_⟩
  · obtain ⟨c, off, e, hb, hc⟩ := hN h0
    exact ⟨c, off, e, by omega, fun i hi => hcell _ _ _ (hc i hi) (by simp [zeroS])⟩
  · rename_i h0
    rw [wayL_len] at h0
    refine ⟨Tw, 0, rfl, by have := (hT 0 h0).2.1; omega, fun i hi => ?_⟩
    rw [wayL_len] at hi
    obtain ⟨c1, _, c3⟩ := hT i hi
    refine ⟨some ⟨rw i, 0, none⟩, n, ?_, ?_⟩
    · rw [Nat.zero_add, hcell _ _ _ c1 (by simp [zeroS])]
      simp [wayL]
    · have := IntRow.nums (Row.block c3 (hW _ (Row.ne c3 hR (by decide))))
      simpa [wayL] using this
theorem out_read {B gc gk T : Nat} {rw : Nat → Nat} (hR : Row w b 27 zeroS) (hW : ∀ g, g ≠ b → W.heap[g]? = w.heap[g]?) (hO : SnpOut w B n l gc gk T rw) :
    Nums W W.heap.size (some ⟨gc, 0, none⟩) (codeL n l) ∧ Nums W W.heap.size (some ⟨gk, 0, none⟩) (keptL n (stAt n l l.length)) ∧ Lsts W W.heap.size (some ⟨T, 0, none⟩) (wayL n (stAt n l l.length)) := by
  have hT := Row.block hO.way.top (hW _ (Row.ne hO.way.top hR (by decide)))
  refine ⟨CodRow.nums (Row.block hO.cod (hW _ (Row.ne hO.cod hR (by decide)))), IntRow.nums (Row.block hO.kep (hW _ (Row.ne hO.kep hR (by decide)))), fun _ => ⟨T, 0, rfl, hT.lt, fun i hi => ?_⟩⟩
  rw [wayL_len] at hi
  refine ⟨some ⟨rw i, 0, none⟩, n, ?_, ?_⟩
  · rw [Nat.zero_add, hT.cell (by rw [topL_len]; exact hi), topL_get n n rw hi, if_pos hi]
    simp [wayL]
  · have h := hO.way.row i hi hi
    have := IntRow.nums (Row.block h (hW _ (Row.ne h hR (by decide))))
    simpa [wayL] using this
end

set_option maxHeartbeats 1000000 in
theorem snapplays_no (w : World) (n : Int) (A : Option Addr) (cap : Nat) (l : List Mv) (hl : l.length ≤ maxLen) (h0 : ¬ Plays n l.length) :
    Calls Try.prog 3 #[.int .i64 n, .slice A l.length cap] w fun e w' => e = .returned (.bool true) ∧ Below w.heap.size w w' := by
  have h0H := Lib.hid h0
  have hno : Hid (¬ (1 ≤ n ∧ n ≤ 6 ∧ (l.length : Int) ≤ 60)) := fun h => h0 ⟨h.1, h.2.1, by omega⟩
  clear h0
  go_enter Try.func3, Try.ntmps3
  go_wp2_with fail
  refine (play_no A cap l n _ hl h0H.out).mono ?_
  rintro e w1 ⟨rfl, hB1⟩
  have hB2 := hB1.alloc hB1.size (.cells #[.slice none 0 0, .bool false, .slice none 0 0, .slice none 0 0] 27)
  have hR2 := Row.made w1 27 zeroS
  unfold zeroS at hR2
  clear hB1
  go_wp2_with fail
  generalize w1.alloc (.cells #[.slice none 0 0, .bool false, .slice none 0 0, .slice none 0 0] 27) = w2 at *
  generalize w1.heap.size = b1 at *
  refine (playcheck_any w2 n (l.length : Int) 1 (by rw [if_neg hno.out])).mono ?_
  rintro e w3 ⟨rfl, rfl⟩
  have hB4 := hB2.alloc hB2.size (.cells #[.slice none 0 0, .bool false, .slice none 0 0, .slice none 0 0] 27)
  have hR4 := Row.made w3 27 zeroS
  unfold zeroS at hR4
  have hR5 := hR2.block (Below.heap_alloc w3 (.cells #[.slice none 0 0, .bool false, .slice none 0 0, .slice none 0 0] 27) _ hR2.lt)
  clear hB2 hR2
  have y0 := hR5.cell (i := 0) (by simp)
  have y1 := hR5.cell (i := 1) (by simp)
  have y2 := hR5.cell (i := 2) (by simp)
  have y3 := hR5.cell (i := 3) (by simp)
  have z0 := hR4.cell (i := 0) (by simp)
  have z1 := hR4.cell (i := 1) (by simp)
  have z2 := hR4.cell (i := 2) (by simp)
  have z3 := hR4.cell (i := 3) (by simp)
  simp only [List.getElem_cons_zero, List.getElem_cons_succ] at y0 y1 y2 y3 z0 z1 z2 z3
  go_wp2_with fail
  generalize w3.alloc (.cells #[.slice none 0 0, .bool false, .slice none 0 0, .slice none 0 0] 27) = w4 at *
  generalize w3.heap.size = b2 at *
  refine (codes_same none none 0 0 [] w4 (fun h => absurd h (by simp)) (fun h => absurd h (by simp)) (by simp)).mono ?_
  rintro e w5 ⟨rfl, hB5⟩
  have hB6 := hB4.trans (hB5.mono hB4.size)
  have hRa := hR5.below hB5 hR5.lt
  have hRb := hR4.below hB5 hR4.lt
  clear hB4 hB5 hR4 hR5 y0 y1 y2 y3 z0 z1 z2 z3
  have y1 := hRa.cell (i := 1) (by simp)
  have y2 := hRa.cell (i := 2) (by simp)
  have z1 := hRb.cell (i := 1) (by simp)
  have z2 := hRb.cell (i := 2) (by simp)
  simp only [List.getElem_cons_zero, List.getElem_cons_succ] at y1 y2 z1 z2
  go_wp2_with fail
  refine (ints_same none none 0 0 [] w5 (fun h => absurd h (by simp)) (fun h => absurd h (by simp)) (by simp)).mono ?_
  rintro e w6 ⟨rfl, hB7⟩
  have hB8 := hB6.trans (hB7.mono hB6.size)
  have hRc := hRa.below hB7 hRa.lt
  have hRd := hRb.below hB7 hRb.lt
  clear hB6 hB7 hRa hRb y1 y2 z1 z2
  have y3 := hRc.cell (i := 3) (by simp)
  have z3 := hRd.cell (i := 3) (by simp)
  simp only [List.getElem_cons_zero, List.getElem_cons_succ] at y3 z3
  go_wp2_with fail
  refine (lists_same none none 0 0 [] w6 (fun h => absurd h (by simp)) (fun h => absurd h (by simp)) (by simp) (by simp)).mono ?_
  rintro e w7 ⟨rfl, hB9⟩
  have hBf := hB8.trans (hB9.mono hB8.size)
  clear hB8 hB9 hRc hRd y3 z3
  go_wp2_with fail
  go_ret
  exact ⟨rfl, hBf⟩

set_option maxHeartbeats 4000000 in
set_option maxRecDepth 100000 in
theorem snapplays_ok (w : World) (n : Nat) (A : Option Addr) (cap : Nat) (l : List Mv) (hE : Mvs w w.heap.size A l) (hF : MFits l) (h0 : Plays (n : Int) l.length)
    (hsnap : ∀ W, Mvs W W.heap.size A l → Calls Try.prog 9 #[.int .i64 (n : Int), .slice A l.length cap] W (RsnRes W n l)) :
    Calls Try.prog 3 #[.int .i64 (n : Int), .slice A l.length cap] w fun e w' => e = .returned (.bool true) ∧ Below w.heap.size w w' := by
  have h60 := h0.2.2
  have hn : n ≤ 6 := by have := h0.2.1; omega
  have h0H := Lib.hid h0
  have hsH := Lib.hid hsnap
  have hyes : Hid (1 ≤ (n : Int) ∧ (n : Int) ≤ 6 ∧ (l.length : Int) ≤ 60) := ⟨h0.1, h0.2.1, by omega⟩
  have hEH := Lib.hid hE
  clear h0 hsnap
  go_enter Try.func3, Try.ntmps3
  go_wp2_with fail
  refine (play_ok A cap l n _ hE hF h0H.out).mono ?_
  rintro e w1 ⟨gc, gk, T, rw1, D, rfl, hD, hO1, hB1⟩
  unfold snpVal
  clear hE hF h0H
  have hR2 := Row.made w1 27 [.slice (some ⟨gc, 0, none⟩) l.length l.length, .bool D, .slice (some ⟨gk, 0, none⟩) n n, .slice (some ⟨T, 0, none⟩) n n]
  have hO2 := hO1.alloc (.cells #[.slice (some ⟨gc, 0, none⟩) l.length l.length, .bool D, .slice (some ⟨gk, 0, none⟩) n n, .slice (some ⟨T, 0, none⟩) n n] 27)
  have hB2 := hB1.alloc hB1.size (.cells #[.slice (some ⟨gc, 0, none⟩) l.length l.length, .bool D, .slice (some ⟨gk, 0, none⟩) n n, .slice (some ⟨T, 0, none⟩) n n] 27)
  have hDH := Lib.hid hD
  clear hB1 hO1 hD
  go_wp2_with fail
  generalize w1.alloc (.cells #[.slice (some ⟨gc, 0, none⟩) l.length l.length, .bool D, .slice (some ⟨gk, 0, none⟩) n n, .slice (some ⟨T, 0, none⟩) n n] 27) = w2 at *
  generalize w1.heap.size = b1 at *
  refine (playcheck_any w2 (n : Int) (l.length : Int) 0 (by rw [if_pos hyes.out])).mono ?_
  rintro e w3 ⟨rfl, rfl⟩
  have hR4 : Row (w3.alloc (.cells #[.slice none 0 0, .bool false, .slice none 0 0, .slice none 0 0] 27)) w3.heap.size 27 zeroS := Row.made w3 27 zeroS
  have hS4 := hR2.block (Below.heap_alloc w3 (.cells #[.slice none 0 0, .bool false, .slice none 0 0, .slice none 0 0] 27) _ hR2.lt)
  have hO4 := hO2.alloc (.cells #[.slice none 0 0, .bool false, .slice none 0 0, .slice none 0 0] 27)
  have hB4 := hB2.alloc hB2.size (.cells #[.slice none 0 0, .bool false, .slice none 0 0, .slice none 0 0] 27)
  have hE4 := Lib.hid ((hEH.out.below hB4).more hB4.size)
  have hb12 : b1 ≠ w3.heap.size := by have := hR2.lt; omega
  have hlo : w.heap.size ≤ w3.heap.size := hB2.size
  clear hB2 hR2 hO2
  go_wp2_with fail
  generalize w3.alloc (.cells #[.slice none 0 0, .bool false, .slice none 0 0, .slice none 0 0] 27) = w4 at *
  generalize w3.heap.size = b2 at *
  refine (hsH.out w4 hE4.out).mono ?_
  rintro e w5 ⟨Ac, capc, D2, gk2, Tw, capw, rw2, rfl, hD2, hN2, hK2, hT2, hB5⟩
  obtain rfl : D2 = D := by
    have := hDH.out
    cases D <;> cases D2 <;> simp_all
  have hR5 := hR4.below hB5 hR4.lt
  have hS5 := hS4.below hB5 hS4.lt
  have hO5 := hO4.below hB5
  have hBe := hB4.trans (hB5.mono hB4.size)
  clear hR4 hS4 hO4 hB4 hB5 hE4 hDH hD2
  have hW : ∀ g, g ≠ b2 → ((((w5.setCell ⟨b2, 0, none⟩ (.slice Ac l.length capc)).setCell ⟨b2, 1, none⟩ (.bool D2)).setCell ⟨b2, 2, none⟩ (.slice (some ⟨gk2, 0, none⟩) n n)).setCell ⟨b2, 3, none⟩ (.slice (some ⟨Tw, 0, none⟩) n capw)).heap[g]? = w5.heap[g]? := fun g hne => by
    rw [Below.heap_setCell _ _ _ g hne, Below.heap_setCell _ _ _ g hne, Below.heap_setCell _ _ _ g hne, Below.heap_setCell _ _ _ g hne]
  have hBf : Below w.heap.size w ((((w5.setCell ⟨b2, 0, none⟩ (.slice Ac l.length capc)).setCell ⟨b2, 1, none⟩ (.bool D2)).setCell ⟨b2, 2, none⟩ (.slice (some ⟨gk2, 0, none⟩) n n)).setCell ⟨b2, 3, none⟩ (.slice (some ⟨Tw, 0, none⟩) n capw)) :=
    (((hBe.setCell (p := ⟨b2, 0, none⟩) hlo _).setCell (p := ⟨b2, 1, none⟩) hlo _).setCell (p := ⟨b2, 2, none⟩) hlo _).setCell (p := ⟨b2, 3, none⟩) hlo _
  have hr := Lib.hid (rsn_read hR5 hW (by simp) hN2 hK2 hT2)
  have ho := Lib.hid (out_read hR5 hW hO5)
  have hS6 := hS5.block (hW b1 hb12)
  have hR6 := (((hR5.set 0 (.slice Ac l.length capc)).set 1 (.bool D2)).set 2 (.slice (some ⟨gk2, 0, none⟩) n n)).set 3 (.slice (some ⟨Tw, 0, none⟩) n capw)
  simp only [zeroS, List.set] at hR6
  have x0 : w5.cell? ⟨b2, 0, none⟩ = some (.slice none 0 0) := hR5.cell (i := 0) (by simp [zeroS])
  have x1 : w5.cell? ⟨b2, 1, none⟩ = some (.bool false) := hR5.cell (i := 1) (by simp [zeroS])
  have x2 : w5.cell? ⟨b2, 2, none⟩ = some (.slice none 0 0) := hR5.cell (i := 2) (by simp [zeroS])
  have x3 : w5.cell? ⟨b2, 3, none⟩ = some (.slice none 0 0) := hR5.cell (i := 3) (by simp [zeroS])
  have f0 : w5.frozen? ⟨b2, 0, none⟩ = false := hR5.frozen 0
  have f1 : w5.frozen? ⟨b2, 1, none⟩ = false := hR5.frozen 1
  have f2 : w5.frozen? ⟨b2, 2, none⟩ = false := hR5.frozen 2
  have f3 : w5.frozen? ⟨b2, 3, none⟩ = false := hR5.frozen 3
  have y0 := hS6.cell (i := 0) (by simp)
  have z0 := hR6.cell (i := 0) (by simp)
  simp only [List.getElem_cons_zero] at y0 z0
  have hS6H := Lib.hid hS6
  have hR6H := Lib.hid hR6
  clear hR5 hS5 hO5 hBe hN2 hK2 hT2 hW hS6 hR6
  go_wp2_with fail
  generalize ((((w5.setCell ⟨b2, 0, none⟩ (.slice Ac l.length capc)).setCell ⟨b2, 1, none⟩ (.bool D2)).setCell ⟨b2, 2, none⟩ (.slice (some ⟨gk2, 0, none⟩) n n)).setCell ⟨b2, 3, none⟩ (.slice (some ⟨Tw, 0, none⟩) n capw)) = w6 at *
  clear x0 x1 x2 x3 f0 f1 f2 f3 y0 z0
  have cC := codes_same (some ⟨gc, 0, none⟩) Ac l.length capc _ _ ho.out.1 hr.out.1 (by rw [codeL_len]; omega)
  rw [codeL_len] at cC
  refine cC.mono ?_
  clear cC
  rintro e w7 ⟨rfl, hB7⟩
  have hS7 := hS6H.out.below hB7 hS6H.out.lt
  have hR7 := hR6H.out.below hB7 hR6H.out.lt
  have y1 := hS7.cell (i := 1) (by simp)
  have y2 := hS7.cell (i := 2) (by simp)
  have z1 := hR7.cell (i := 1) (by simp)
  have z2 := hR7.cell (i := 2) (by simp)
  simp only [List.getElem_cons_zero, List.getElem_cons_succ] at y1 y2 z1 z2
  have hS7H := Lib.hid hS7
  have hR7H := Lib.hid hR7
  clear hS7 hR7
  go_wp2_with fail
  clear y1 y2 z1 z2
  have cK := ints_same (some ⟨gk, 0, none⟩) (some ⟨gk2, 0, none⟩) n n _ w7 ((ho.out.2.1.below hB7).more hB7.size) ((hr.out.2.1.below hB7).more hB7.size) (by rw [keptL_len]; omega)
  rw [keptL_len] at cK
  refine cK.mono ?_
  clear cK
  rintro e w8 ⟨rfl, hB8⟩
  have hS8 := hS7H.out.below hB8 hS7H.out.lt
  have hR8 := hR7H.out.below hB8 hR7H.out.lt
  have y3 := hS8.cell (i := 3) (by simp)
  have z3 := hR8.cell (i := 3) (by simp)
  simp only [List.getElem_cons_zero, List.getElem_cons_succ] at y3 z3
  clear hS8 hR8
  have hB78 := hB7.trans (hB8.mono hB7.size)
  go_wp2_with fail
  clear y3 z3
  have cL := lists_same (some ⟨T, 0, none⟩) (some ⟨Tw, 0, none⟩) n capw _ w8 (ho.out.2.2.within hB78) (hr.out.2.2.within hB78) (by rw [wayL_len]; omega) (fun x hx => by
    simp only [wayL, List.mem_map] at hx
    obtain ⟨i, _, rfl⟩ := hx
    simp; omega)
  rw [wayL_len] at cL
  refine cL.mono ?_
  clear cL
  rintro e w9 ⟨rfl, hB9⟩
  have hBz := (hBf.trans (hB78.mono hBf.size)).trans (hB9.mono (hBf.trans (hB78.mono hBf.size)).size)
  go_wp2_with fail
  go_ret
  exact ⟨rfl, hBz⟩

#print axioms snapplays_no
#print axioms snapplays_ok
end Go.Proofs.Ytebighmddimnkaa
