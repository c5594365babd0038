/-
  The walk of the law QuietSafe: it is told that all is done just if nobody works, and nothing is on the way.
-/
import Derived.Test.YtichcahlokjblaaQpl
import Derived.Test.YtichcahlokjblaaPlq
namespace Go.Proofs.Ytichcahlokjblaa
open Go.RowKit Go.Maps
set_option linter.unusedVariables false

set_option maxHeartbeats 1000000 in
theorem qsafe_no (w : World) (n : Int) (A : Option Addr) (cap : Nat) (l : List Mv) (hl : l.length ≤ maxLen) (h0 : ¬ Plays n l.length) :
    Calls Try.prog 4 #[.int .i64 n, .slice A l.length cap] w fun e w' => e = .returned (.bool true) ∧ Below w.heap.size w w' := by
  have h0H := Lib.hid h0
  have hno : Hid (¬ (1 ≤ n ∧ n ≤ 6 ∧ (l.length : Int) ≤ 60)) := fun h => h0 ⟨h.1, h.2.1, by omega⟩
  clear h0
  go_enter Try.func4, Try.ntmps4
  go_wp2_with fail
  refine (play_no A cap l n _ hl h0H.out).mono ?_
  rintro e w1 ⟨rfl, hB1⟩
  have hB2 := hB1.alloc hB1.size (.cells #[.slice none 0 0, .bool false, .int .u32 0, .int .i64 0] 26)
  clear hB1
  go_wp2_with fail
  generalize w1.alloc (.cells #[.slice none 0 0, .bool false, .int .u32 0, .int .i64 0] 26) = w2 at *
  refine (played_any w2 n (l.length : Int) false ⟨fun h => absurd h (by decide), fun h => absurd h hno.out⟩).mono ?_
  rintro e w5 ⟨rfl, rfl⟩
  go_wp2_with fail
  go_ret
  exact ⟨rfl, hB2⟩

theorem wayS_zero {n : Nat} {S : QS} : wayS n S = 0 ↔ ∀ i j, i < n → j < n → S.tr i j = 0 := by
  unfold wayS
  rw [sumP_zero fun i j _ _ => by omega]
  constructor
  · intro h i j hi hj; have := h i j hi hj; omega
  · intro h i j hi hj; rw [h i j hi hj]; rfl
theorem done_word {n : Nat} (hn : 0 < n) (l : List Mv) (k : Nat) : doneB n (qAt n l k) = (decide (wordB n (qAt n l k).act = 0) && decide (wayS n (qAt n l k) = 0)) := by
  obtain ⟨dep, hI, hS⟩ := QOk.at_ hn l k
  rw [Bool.eq_iff_iff, doneB_iff, QOk.safe ⟨dep, hI, hS⟩, Bool.and_eq_true, decide_eq_true_iff, decide_eq_true_iff, wordB_zero, wayS_zero]
  constructor
  · rintro ⟨h1, h2⟩; exact ⟨h1, fun i j _ _ => h2 i j⟩
  · rintro ⟨h1, h2⟩
    refine ⟨h1, fun i j => ?_⟩
    by_cases e : (qAt n l k).tr i j = 0
    · exact e
    · obtain ⟨h3, h4, _⟩ := hI.trE i j e
      exact h2 i j h3 h4

set_option maxHeartbeats 4000000 in
set_option maxRecDepth 100000 in
theorem qsafe_ok (w : World) (n : Nat) (A : Option Addr) (cap : Nat) (l : List Mv) (hE : Mvs w w.heap.size A l) (hF : MFits l) (h0 : Plays (n : Int) l.length) :
    Calls Try.prog 4 #[.int .i64 (n : Int), .slice A l.length cap] w fun e w' => e = .returned (.bool true) ∧ Below w.heap.size w w' := by
  have h60 := h0.2.2
  have hn : n ≤ 6 := by have := h0.2.1; omega
  have hn0 : 0 < n := by have := h0.1; omega
  have h0H := Lib.hid h0
  have hyes : Hid (1 ≤ (n : Int) ∧ (n : Int) ≤ 6 ∧ (l.length : Int) ≤ 60) := ⟨h0.1, h0.2.1, by omega⟩
  have hdw := Lib.hid (done_word hn0 l l.length)
  have hy0 : 0 ≤ wayS n (qAt n l l.length) := sumP_nonneg fun i j _ _ => by omega
  have hEH := Lib.hid hE
  have hFH := Lib.hid hF
  clear h0 hE hF
  go_enter Try.func4, Try.ntmps4
  go_wp2_with fail
  refine (play_ok A cap l n _ hEH.out hFH.out h0H.out).mono ?_
  rintro e w1 ⟨gc, rfl, hO1, hgc1, hB1⟩
  unfold qtVal
  generalize doneB n (qAt n l l.length) = D at *
  generalize wordB n (qAt n l l.length).act = W at *
  generalize wayS n (qAt n l l.length) = y at *
  have hR2 := Row.made w1 26 [.slice (some ⟨gc, 0, none⟩) l.length l.length, .bool D, .int .u32 (W : Int), .int .i64 y]
  have hB2 := hB1.alloc hB1.size (.cells #[.slice (some ⟨gc, 0, none⟩) l.length l.length, .bool D, .int .u32 (W : Int), .int .i64 y] 26)
  clear hB1 hO1 hgc1
  go_wp2_with fail
  generalize w1.alloc (.cells #[.slice (some ⟨gc, 0, none⟩) l.length l.length, .bool D, .int .u32 (W : Int), .int .i64 y] 26) = w2 at *
  generalize w1.heap.size = b1 at *
  refine (played_any w2 n (l.length : Int) true ⟨fun _ => hyes.out, fun _ => rfl⟩).mono ?_
  rintro e w5 ⟨rfl, rfl⟩
  have y0 := hR2.cell (i := 0) (by simp)
  have y1 := hR2.cell (i := 1) (by simp)
  have y2 := hR2.cell (i := 2) (by simp)
  have y3 := hR2.cell (i := 3) (by simp)
  simp only [List.getElem_cons_zero, List.getElem_cons_succ] at y0 y1 y2 y3
  clear hR2
  have ll : ((l.length : Int) == (l.length : Int)) = true := by simp
  by_cases hW : W = 0
  · subst hW
    by_cases hy : y = 0
    · subst hy
      have hD : D = true := by rw [hdw.out]; rfl
      subst hD
      clear hdw
      go_wp2_with fail
      go_ret
      exact ⟨rfl, hB2⟩
    · have hD : D = false := by rw [hdw.out]; simp [hy]
      subst hD
      have hyf : (y == 0) = false := by simpa using hy
      clear hdw
      go_wp2_with fail
      go_ret
      exact ⟨rfl, hB2⟩
  · have hD : D = false := by rw [hdw.out]; simp [hW]
    subst hD
    have hWf : ((W : Int) == 0) = false := by simpa using hW
    clear hdw
    go_wp2_with fail
    go_ret
    exact ⟨rfl, hB2⟩

theorem quietSafe_law (w : World) (n : Int) (_hn : I64 n) (A : Option Addr) (cap : Nat) (l : List Mv) (hE : Mvs w w.heap.size A l) (hF : MFits l) (hcap : l.length ≤ cap) (hl : l.length ≤ maxLen) (hs : l.length ≤ 17592186044416) :
    Calls Try.prog 4 #[.int .i64 n, .slice A l.length cap] w fun e w' => e = .returned (.bool true) ∧ Below w.heap.size w w' := by
  by_cases h0 : Plays n l.length
  · have h1 := h0.1
    obtain ⟨c, rfl⟩ := Int.eq_ofNat_of_zero_le (show 0 ≤ n by omega)
    exact qsafe_ok w c A cap l hE hF h0
  · exact qsafe_no w n A cap l hl h0

#print axioms quietSafe_law
end Go.Proofs.Ytichcahlokjblaa
