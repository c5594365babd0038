/-
  The walk of the law TokenOne: no two are in the critical section, and none that is in it is in its own queue.
-/
import Derived.Test.YtejckoffllhjcaaKcm
namespace Go.Proofs.Ytejckoffllhjcaa
open Go.RowKit Go.Maps
set_option linter.unusedVariables false

set_option maxHeartbeats 1000000 in
theorem kone_no (w : World) (A0 : Option Addr) (cap0 : Nat) (ul : List Int) (hE0 : Nums w w.heap.size A0 ul) (hl0 : ul.length ≤ maxLen) (A : Option Addr) (cap : Nat) (l : List Mv) (hl : l.length ≤ maxLen) (h0 : checkK ul l.length ≠ 0) :
    Calls Try.prog 4 #[.slice A0 ul.length cap0, .slice A l.length cap] w fun e w' => e = .returned (.bool true) ∧ Below w.heap.size w w' := by
  have hp := Lib.hid (play_no A0 cap0 ul A cap l.length w hE0 hl0 hl h0)
  have htr := Lib.hid (fun (w2 : World) (hE2 : Nums w2 w2.heap.size A0 ul) => treed_no (cap := cap0) hE2 hl0 h0)
  have hcb : (checkK ul l.length != 0) = true := by rw [bne_iff_ne]; exact h0
  have hEH := Lib.hid hE0
  generalize checkK ul l.length = c at *
  clear h0 hE0
  unfold noVal at hp
  go_enter Try.func4, Try.ntmps4
  go_wp2_with fail
  refine hp.out.mono ?_
  rintro e w1 ⟨rfl, hB1⟩
  have hB2 := hB1.alloc hB1.size (.cells #[.slice none 0 0, .int .u32 0, .int .u32 0, .int .i64 0] 27)
  have ht := Lib.hid (htr.out _ ((hEH.out.below hB2).more hB2.size))
  clear hB1 htr hp
  go_wp2_with fail
  refine ht.out.mono ?_
  rintro e w5 ⟨rfl, rfl⟩
  go_wp2_with fail
  go_ret
  exact ⟨rfl, hB2⟩

set_option maxHeartbeats 4000000 in
set_option maxRecDepth 100000 in
theorem kone_ok (w : World) (A0 : Option Addr) (cap0 : Nat) (ul : List Int) (hE0 : Nums w w.heap.size A0 ul) (hl0 : ul.length ≤ maxLen) (A : Option Addr) (cap : Nat) (l : List Mv) (hE : Mvs w w.heap.size A l) (hF : MFits l) (hl : l.length ≤ maxLen) (h0 : checkK ul l.length = 0) :
    Calls Try.prog 4 #[.slice A0 ul.length cap0, .slice A l.length cap] w fun e w' => e = .returned (.bool true) ∧ Below w.heap.size w w' := by
  have hp := Lib.hid (play_ok A0 cap0 ul A cap l w hE0 hl0 hE hF hl h0)
  have htr := Lib.hid (fun (w2 : World) (hE2 : Nums w2 w2.heap.size A0 ul) => treed_yes (cap := cap0) hE2 hl0 h0)
  obtain ⟨h1, h2, h3, hrb, htb⟩ := checkK_ok h0
  have hKI := KInvX.at_ (KInv.tree hrb htb) l l.length
  have hsz := Lib.hid (ins_size hKI)
  have han := Lib.hid (ins_want hKI)
  have hV := wordB_small h2 (kAt ul.length (upN ul) l l.length).ins
  have hW := wordB_small h2 (wantB (kAt ul.length (upN ul) l l.length))
  have hEH := Lib.hid hE0
  have h60 : (l.length : Int) ≤ 60 := by omega
  clear h0 hE hF hE0 hrb htb hKI h1 h3
  unfold PlkRes at hp
  go_enter Try.func4, Try.ntmps4
  go_wp2_with fail
  refine hp.out.mono ?_
  rintro e w1 ⟨gc, rfl, hO1, hgc1, hB1⟩
  unfold ttVal
  generalize wordB ul.length (kAt ul.length (upN ul) l l.length).ins = V at *
  generalize wordB ul.length (wantB (kAt ul.length (upN ul) l l.length)) = W at *
  generalize wayK ul.length (kAt ul.length (upN ul) l l.length) = y at *
  have hR2 := Row.made w1 27 [.slice (some ⟨gc, 0, none⟩) l.length l.length, .int .u32 (V : Int), .int .u32 (W : Int), .int .i64 y]
  have hB2 := hB1.alloc hB1.size (.cells #[.slice (some ⟨gc, 0, none⟩) l.length l.length, .int .u32 (V : Int), .int .u32 (W : Int), .int .i64 y] 27)
  have ht := Lib.hid (htr.out _ ((hEH.out.below hB2).more hB2.size))
  clear hB1 hO1 hgc1 hp htr
  go_wp2_with fail
  refine ht.out.mono ?_
  rintro e w5 ⟨rfl, rfl⟩
  generalize w1.alloc (.cells #[.slice (some ⟨gc, 0, none⟩) l.length l.length, .int .u32 (V : Int), .int .u32 (W : Int), .int .i64 y] 27) = w5 at *
  generalize w1.heap.size = b1 at *
  have y0 := hR2.cell (i := 0) (by simp)
  have y1 := hR2.cell (i := 1) (by simp)
  have y2 := hR2.cell (i := 2) (by simp)
  have y3 := hR2.cell (i := 3) (by simp)
  simp only [List.getElem_cons_zero, List.getElem_cons_succ] at y0 y1 y2 y3
  clear hR2 ht
  have ll : ((l.length : Int) == (l.length : Int)) = true := by simp
  have hav : bits BinOp.and IntKind.u32 (V : Int) (W : Int) = 0 := by rw [and_val V W (by omega) (by omega), han.out]; rfl
  have hszI : (bcnt V 32 : Int) ≤ 1 := by have := hsz.out; omega
  have hcall := Lib.hid (size_any V w5 (by omega))
  generalize bcnt V 32 = z at *
  clear hsz
  go_wp2_with fail
  refine hcall.out.mono ?_
  rintro e w6 ⟨rfl, rfl⟩
  go_wp2_with fail
  go_ret
  exact ⟨rfl, hB2⟩

theorem tokenOne_law (w : World) (A0 : Option Addr) (cap0 : Nat) (ul : List Int) (hE0 : Nums w w.heap.size A0 ul) (hF0 : NumFits ul) (hc0 : ul.length ≤ cap0) (hl0 : ul.length ≤ maxLen) (hs0 : ul.length ≤ 17592186044416)
    (A : Option Addr) (cap : Nat) (l : List Mv) (hE : Mvs w w.heap.size A l) (hF : MFits l) (hcap : l.length ≤ cap) (hl : l.length ≤ maxLen) (hs : l.length ≤ 17592186044416) :
    Calls Try.prog 4 #[.slice A0 ul.length cap0, .slice A l.length cap] w fun e w' => e = .returned (.bool true) ∧ Below w.heap.size w w' := by
  by_cases h0 : checkK ul l.length = 0
  · exact kone_ok w A0 cap0 ul hE0 hl0 A cap l hE hF hl h0
  · exact kone_no w A0 cap0 ul hE0 hl0 A cap l hl h0

#print axioms tokenOne_law
end Go.Proofs.Ytejckoffllhjcaa
