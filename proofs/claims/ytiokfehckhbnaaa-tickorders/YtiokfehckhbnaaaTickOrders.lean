/-
  The walk of the law TickOrders: tick.Order and the document's order are alike.
-/
import Derived.Test.YtiokfehckhbnaaaOrder
import Derived.Test.YtiokfehckhbnaaaRor
import Derived.Test.YtiokfehckhbnaaaRef
import Derived.Test.YtiokfehckhbnaaaInt
namespace Go.Proofs.Ytiokfehckhbnaaa
open Go.RowKit Go.Maps

set_option maxHeartbeats 1000000 in
theorem tickorders_no (w : World) (n : Int) (A : Option Addr) (cap : Nat) (l : List Ev) (hE : Evs w w.heap.size A l) (hF : Fits l) (hcap : l.length ≤ cap) (hl : l.length ≤ maxLen) (h0 : ¬ checkCode n l = 0) :
    Calls Try.prog 4 #[.int .i64 n, .slice A l.length cap] w fun e w' => e = .returned (.bool true) ∧ Below w.heap.size w w' := by
  have hr : (checkCode n l == 0) = false := by simp [h0]
  have hr' : (checkCode n l != 0) = true := by simp [h0]
  have h0H := Lib.hid h0
  clear h0
  go_enter Try.func4, Try.ntmps4
  go_wp2_with fail
  refine (torder_no A cap l n _ hE hF hl h0H.out).mono ?_
  rintro e w1 ⟨rfl, hB1⟩
  go_wp2_with fail
  refine (refcheck_any A cap l n _ ((hE.below hB1).more hB1.size) hcap hl).mono ?_
  rintro e w2 ⟨rfl, hB2'⟩
  have hB2 := hB1.trans (hB2'.mono hB1.size)
  go_wp2_with fail
  go_ret
  exact ⟨by simp, hB2⟩

/-- The row that the document lays reads as the sorted list. -/
theorem placed_nums {l : List Ev} {T T' O : Nat → Nat} {s : List Nat} {w : World} {g : Nat} (hR : NatRow w g l.length O) (hT : Rank (HB l) l.length T) (hT' : Rank (HB l) l.length T') (hP : Placed l T' O l.length) (hsl : s.length = l.length) (hp : s.Perm (List.range l.length)) (hs : s.Pairwise (fun a b => early l T a b = true)) : Nums w w.heap.size (some ⟨g, 0, none⟩) (s.map Int.ofNat) := by
  intro _
  refine ⟨g, 0, rfl, Row.lt hR, fun q hq => ?_⟩
  have hq' : q < s.length := by simpa using hq
  have hm : s[q] < l.length := List.mem_range.1 (hp.mem_iff.1 (List.getElem_mem hq'))
  have hs' : s.Pairwise (fun a b => early l T' a b = true) := by
    rw [List.pairwise_iff_getElem] at hs ⊢
    intro i j hi hj hij
    have hmi : s[i] < l.length := List.mem_range.1 (hp.mem_iff.1 (List.getElem_mem hi))
    have hmj : s[j] < l.length := List.mem_range.1 (hp.mem_iff.1 (List.getElem_mem hj))
    have := hs i j hi hj hij
    unfold early at this ⊢
    rw [← Rank.same hb_lt hT hT' hmi, ← Rank.same hb_lt hT hT' hmj]
    exact this
  have hpos := pos_of_sorted hp hs' (early_irr l T') (fun x y h => early_asym h) hq'
  have hO := hP s[q] hm
  rw [hpos] at hO
  rw [Nat.zero_add, hR.at_ (by omega), hO]
  simp

set_option maxHeartbeats 1000000 in
theorem tickorders_ok (w : World) (n : Int) (A : Option Addr) (cap : Nat) (l : List Ev) (hE : Evs w w.heap.size A l) (hF : Fits l) (hcap : l.length ≤ cap) (h0 : checkCode n l = 0) :
    Calls Try.prog 4 #[.int .i64 n, .slice A l.length cap] w fun e w' => e = .returned (.bool true) ∧ Below w.heap.size w w' := by
  have h30 := (check_small h0).2.2
  have hl : l.length ≤ maxLen := by unfold maxLen; omega
  have hr : (checkCode n l != 0) = false := by simp [h0]
  have h0H := Lib.hid h0
  clear h0
  go_enter Try.func4, Try.ntmps4
  go_wp2_with fail
  refine (torder_ok A cap l n _ hE hF h0H.out).mono ?_
  rintro e w1 ⟨g1, s, T1, rfl, hsl, hsp, hT1, hss, hN1, hB1⟩
  have hslH := Lib.hid hsl
  clear hsl
  go_wp2_with fail
  refine (refcheck_any A cap l n _ ((hE.below hB1).more hB1.size) hcap hl).mono ?_
  rintro e w2 ⟨rfl, hB2'⟩
  have hN2 := (hN1.below hB2').more hB2'.size
  have hB2 := hB1.trans (hB2'.mono hB1.size)
  clear hB2' hB1 hN1
  go_wp2_with fail
  refine (reforder_any A cap l _ ((hE.below hB2).more hB2.size) h30).mono ?_
  rintro e w3 ⟨g3, O3, T3, rfl, hR3, hT3, hP3, _, hB3'⟩
  have hN4 := (hN2.below hB3').more hB3'.size
  have hB3 := hB2.trans (hB3'.mono hB2.size)
  have hN5 := placed_nums hR3 hT1 hT3 hP3 hslH.out hsp hss
  have hint := ints_same (some ⟨g1, 0, none⟩) (some ⟨g3, 0, none⟩) l.length l.length _ w3 hN4 hN5 (by rw [List.length_map, hslH.out]; omega)
  rw [List.length_map, hslH.out] at hint
  clear hB3' hB2 hN2 hT1 hT3 hR3 hN4 hN5 hP3 hss hsp
  go_wp2_with fail
  refine hint.mono ?_
  rintro e w4 ⟨rfl, hB4'⟩
  have hB4 := hB3.trans (hB4'.mono hB3.size)
  go_wp2_with fail
  go_ret
  exact ⟨rfl, hB4⟩

theorem tickOrders_law (w : World) (n : Int) (_hn : I64 n) (A : Option Addr) (cap : Nat) (l : List Ev) (hE : Evs w w.heap.size A l) (hF : Fits l) (hcap : l.length ≤ cap) (hl : l.length ≤ maxLen) (_hs : l.length ≤ 17592186044416) :
    Calls Try.prog 4 #[.int .i64 n, .slice A l.length cap] w fun e w' => e = .returned (.bool true) ∧ Below w.heap.size w w' := by
  by_cases h0 : checkCode n l = 0
  · exact tickorders_ok w n A cap l hE hF hcap h0
  · exact tickorders_no w n A cap l hE hF hcap hl h0

#print axioms tickOrders_law
end Go.Proofs.Ytiokfehckhbnaaa
