/-
  What the laws of package token have in common.
-/
import Derived.Test.YtejckoffllhjcaaKpl
import Derived.Test.YtejckoffllhjcaaKtc
import Derived.Test.YtejckoffllhjcaaBtw
namespace Go.Proofs.Ytejckoffllhjcaa
open Go.RowKit Go.Maps
set_option linter.unusedVariables false

theorem checkK_iff {l : List Int} {m : Nat} : checkK l m = 0 ↔ ((1 ≤ l.length ∧ l.length ≤ 6 ∧ (m : Int) ≤ 60) ∧ treeCode l = 0) := by
  unfold checkK
  by_cases e : 1 ≤ l.length ∧ l.length ≤ 6 ∧ m ≤ 60
  · rw [if_pos e]
    exact ⟨fun h => ⟨⟨e.1, e.2.1, by omega⟩, h⟩, fun h => h.2⟩
  · rw [if_neg e]
    exact ⟨fun h => (by cases h), fun h => absurd ⟨h.1.1, h.1.2.1, by omega⟩ e⟩
theorem treed_no {w : World} {A : Option Addr} {cap : Nat} {l : List Int} {m : Nat} (hE : Nums w w.heap.size A l) (hl : l.length ≤ maxLen) (h : checkK l m ≠ 0) :
    Calls Try.prog 12 #[.slice A l.length cap, .int .i64 (m : Int)] w fun e w' => e = .returned (.bool false) ∧ w = w' :=
  treed_any w A cap l m hE hl false ⟨(nomatch ·), fun h2 => absurd (checkK_iff.2 h2) h⟩
theorem treed_yes {w : World} {A : Option Addr} {cap : Nat} {l : List Int} {m : Nat} (hE : Nums w w.heap.size A l) (hl : l.length ≤ maxLen) (h : checkK l m = 0) :
    Calls Try.prog 12 #[.slice A l.length cap, .int .i64 (m : Int)] w fun e w' => e = .returned (.bool true) ∧ w = w' :=
  treed_any w A cap l m hE hl true ⟨fun _ => checkK_iff.1 h, fun _ => rfl⟩
theorem ins_size {n : Nat} {S : KS} (h : KInv n S) : bcnt (wordB n S.ins) 32 ≤ 1 := bcnt_one (fun i j hi hj => by
  rw [wordB_bit] at hi hj
  simp only [Bool.and_eq_true] at hi hj
  obtain ⟨a1, a2, _⟩ := h.insp i hi.2
  obtain ⟨b1, b2, _⟩ := h.insp j hj.2
  exact h.hold1 a1 b1 a2 b2) 32
theorem ins_want {n : Nat} {S : KS} (h : KInv n S) : wordB n S.ins &&& wordB n (wantB S) = 0 := wordB_apart fun i _ hi => by
  unfold wantB
  rw [decide_eq_false_iff_not]
  exact (h.insp i hi).2.2
theorem wayK_nonneg (n : Nat) (S : KS) : 0 ≤ wayK n S := sum2_nonneg fun _ _ => by omega

#print axioms ins_size
end Go.Proofs.Ytejckoffllhjcaa
