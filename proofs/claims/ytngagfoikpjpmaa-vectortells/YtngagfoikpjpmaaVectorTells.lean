/-
  The walk of the law VectorTells: vector.Vectors and the document's vectors are alike.
-/
import Derived.Test.YtngagfoikpjpmaaVVs
import Derived.Test.YtngagfoikpjpmaaRVe
import Derived.Test.YtngagfoikpjpmaaRef
import Derived.Test.YtngagfoikpjpmaaInt
import Derived.Deep.RegionHeld3
namespace Go.Proofs.Ytngagfoikpjpmaa
open Go.RowKit Go.Maps

set_option maxHeartbeats 1000000 in
theorem vectells_no (w : World) (n : Int) (A : Option Addr) (cap : Nat) (l : List Ev) (hE : Evs w w.heap.size A l) (hF : Fits l) (hcap : l.length ≤ cap) (hl : l.length ≤ maxLen) (h0 : ¬ checkCode n l = 0) :
    Calls Try.prog 3 #[.int .i64 n, .slice A l.length cap] w fun e w' => e = .returned (.bool true) ∧ Below w.heap.size w w' := by
  have hr : (checkCode n l == 0) = false := by simp [h0]
  have hr' : (checkCode n l != 0) = true := by simp [h0]
  have h0H := Lib.hid h0
  clear h0
  go_enter Try.func3, Try.ntmps3
  go_wp2_with fail
  refine (vectors_no A cap l n _ hE hF hl h0H.out).mono ?_
  rintro e w1 ⟨rfl, hB1⟩
  go_wp2_with fail
  refine (refcheck_any A cap l n _ ((hE.below hB1).more hB1.size) hcap hl).mono ?_
  rintro e w2 ⟨rfl, hB2'⟩
  have hB2 := hB1.trans (hB2'.mono hB1.size)
  go_wp2_with fail
  go_ret
  exact ⟨by simp, hB2⟩

def VtRel (w wr : World) : Prop := Below w.heap.size w wr

set_option maxHeartbeats 4000000 in
set_option maxRecDepth 100000 in
theorem vectells_ok (w : World) (c : Nat) (A : Option Addr) (cap : Nat) (l : List Ev) (hE : Evs w w.heap.size A l) (hF : Fits l) (hcap : l.length ≤ cap) (h0 : checkCode (c : Int) l = 0) :
    Calls Try.prog 3 #[.int .i64 (c : Int), .slice A l.length cap] w fun e w' => e = .returned (.bool true) ∧ Below w.heap.size w w' := by
  have h30 := (check_small h0).2.2
  have hc6 := (check_small h0).2.1
  have hl : l.length ≤ maxLen := by unfold maxLen; omega
  have hr : (checkCode (c : Int) l != 0) = false := by simp [h0]
  have h0H := Lib.hid h0
  clear h0
  go_enter Try.func3, Try.ntmps3
  go_wp2_with fail
  refine (vectors_ok A cap l c _ hE hF h0H.out).mono ?_
  rintro e w1 ⟨T, gs, rfl, hO1, hB1⟩
  go_wp2_with fail
  refine (refcheck_any A cap l (c : Int) _ ((hE.below hB1).more hB1.size) hcap hl).mono ?_
  rintro e w2 ⟨rfl, hB2'⟩
  have hO2 := hO1.below hB2'
  have hB2 := hB1.trans (hB2'.mono hB1.size)
  clear hB2' hB1 hO1
  go_wp2_with fail
  refine (table_any A cap l _ ((hE.below hB2).more hB2.size) h30).mono ?_
  rintro e w3 h
  obtain ⟨rfl, gt, f, hT, hf, hB3'⟩ := h
  have hO3 := hO2.below hB3'
  have hB3 := hB2.trans (hB3'.mono hB2.size)
  have hfH := Lib.hid hf
  generalize w2.heap.size = TT at *
  clear hB3' hB2 hO2 hf
  go_wp2_with fail
  go_loopw [9] (fun t wr => ∃ k : Nat, k ≤ l.length ∧ t = .int .i64 k ∧ VtRel w3 wr) (fun t _ => l.length - (intOf t).toNat)
  case atStart => exact ⟨0, Nat.zero_le _, rfl, Below.refl _ _⟩
  case round =>
    obtain ⟨k, hk, rfl, hB4⟩ := hrel
    unfold VtRel at hB4
    have hBw := hB3.trans (hB4.mono hB3.size)
    by_cases hlt : k < l.length
    · have hO4 := hO3.below hB4
      have hT4 := hT.below hB4
      have s1 := hO4.slot k hlt
      have hkI : (k : Int) < (l.length : Int) := by omega
      have hcall1 : Hid (Calls Try.prog 13 #[.int .i64 (c : Int), .slice A l.length cap, .slice (some ⟨TT, 0, none⟩) l.length l.length, .int .i64 (k : Int)] wr.drew (RvRes l c k wr.drew)) := rvector_ok A cap l c k wr.drew TT TT gt f ((hE.below hBw.drew).more hBw.size) h0H.out (hT4.heap rfl) hfH hlt
      have hcall2 : Hid (∀ w5 : World, Below wr.drew.heap.size wr.drew w5 → ∀ g, Nums w5 w5.heap.size (some ⟨g, 0, none⟩) (vlist l c k) → Calls Try.prog 12 #[.slice (some ⟨gs k, 0, none⟩) c c, .slice (some ⟨g, 0, none⟩) c c] w5 fun e w' => e = .returned (.bool true) ∧ Below w5.heap.size w5 w') := fun w5 hB5 g hN => by
        have := ints_same (some ⟨gs k, 0, none⟩) (some ⟨g, 0, none⟩) c c (vlist l c k) w5 ((hO4.below (w' := w5) ⟨hB5.os, hB5.tape, hB5.output, hB5.size, hB5.block⟩).nums k hlt) hN (by rw [vlist_len]; omega)
        rw [vlist_len] at this
        exact this
      have hTl : T < wr.heap.size := hO4.lt
      clear hO4 hT4
      generalize gs k = gk at *
      go_wp2_with fail
      go_region_held3 (fun w' => w'.cell? ⟨T, k, none⟩ = some (.slice (some ⟨gk, 0, none⟩) c c)) (first | go_keep) (first | (go_at_call 13; refine (hcall1.out).mono ?_; rintro e w5 ⟨g5, rfl, hN5, hB5⟩; have hs5 : w5.cell? ⟨T, k, none⟩ = some (.slice (some ⟨gk, 0, none⟩) c c) := (hB5.cell (p := ⟨T, k, none⟩) hTl).trans s1) | (go_at_call 12; refine (hcall2.out _ hB5 _ hN5).mono ?_; rintro e w6 ⟨rfl, hB6⟩; have hs6 : w6.cell? ⟨T, k, none⟩ = some (.slice (some ⟨gk, 0, none⟩) c c) := (hB6.cell (p := ⟨T, k, none⟩) (Nat.lt_of_lt_of_le hTl hB5.size)).trans hs5))
      have hB7 : Below w3.heap.size w3 w6 := hB4.drew.trans ((hB5.mono hB4.size).trans (hB6.mono (Nat.le_trans hB4.size hB5.size)))
      go_wp2_with fail
      go_roundw
      case rel => exact ⟨k + 1, by omega, by go_num, hB7⟩
      case measure => simp [intOf]; omega
    · have hkl : k = l.length := by omega
      subst hkl
      go_wp2_with fail
      go_ret
      exact ⟨rfl, hBw⟩

theorem vectorTells_law (w : World) (n : Int) (_hn : I64 n) (A : Option Addr) (cap : Nat) (l : List Ev) (hE : Evs w w.heap.size A l) (hF : Fits l) (hcap : l.length ≤ cap) (hl : l.length ≤ maxLen) (_hs : l.length ≤ 17592186044416) :
    Calls Try.prog 3 #[.int .i64 n, .slice A l.length cap] w fun e w' => e = .returned (.bool true) ∧ Below w.heap.size w w' := by
  by_cases h0 : checkCode n l = 0
  · have hn := (check_small h0).1
    obtain ⟨c, rfl⟩ := Int.eq_ofNat_of_zero_le (show 0 ≤ n by omega)
    exact vectells_ok w c A cap l hE hF hcap h0
  · exact vectells_no w n A cap l hE hF hcap hl h0

#print axioms vectorTells_law
end Go.Proofs.Ytngagfoikpjpmaa
