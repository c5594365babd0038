/-
  Words of a slice in memory; the code that all functions of package wait begin with.
-/
import Derived.Test.YtgamppdfjbcbeaaWdf
namespace Go.Proofs.Ytgamppdfjbcbeaa
open Go.RowKit Go.Maps
set_option linter.unusedVariables false

/-- The words of a slice whose array begins at A: in memory below block B. -/
def Wds (w : World) (B : Nat) (A : Option Addr) (l : List Nat) : Prop :=
  0 < l.length → ∃ b off, A = some ⟨b, off, none⟩ ∧ b < B ∧ ∀ i, i < l.length → w.cell? ⟨b, off + i, none⟩ = some (.int .u32 (wat l i : Int))
/-- Every word is one of 32 bits. -/
def WFits (l : List Nat) : Prop := ∀ i, wat l i < 4294967296
section
variable {w w' : World} {B B' : Nat} {A : Option Addr} {l : List Nat}
theorem Wds.keep (h : Wds w B A l) (hk : ∀ p : Addr, p.block < B → w'.cell? p = w.cell? p) : Wds w' B A l := by
  intro h0
  obtain ⟨b, off, e, hb, hc⟩ := h h0
  exact ⟨b, off, e, hb, fun i hi => by rw [hk _ hb]; exact hc i hi⟩
theorem Wds.below (h : Wds w B A l) (hb : Below B w w') : Wds w' B A l := h.keep fun _ hp => hb.cell hp
theorem Wds.more (h : Wds w B A l) (hB : B ≤ B') : Wds w B' A l := by
  intro h0
  obtain ⟨b, off, e, hb, hc⟩ := h h0
  exact ⟨b, off, e, by omega, hc⟩
end

/-- The words that are not all processes'. -/
def farW (n x : Nat) : Bool := decide (2 ^ n ≤ x)
/-- Are all words up to k sets of n processes? -/
def farIn (l : List Nat) : Prop := ∃ i, i < l.length ∧ farW l.length (wat l i) = true
open Classical in
/-- The first error of waits. -/
noncomputable def waitCode (l : List Nat) : Int := if l.length < 1 ∨ 6 < l.length then 1 else if farIn l then 4 else 0
theorem waitCode_large {l : List Nat} (h : l.length < 1 ∨ 6 < l.length) : waitCode l = 1 := by unfold waitCode; rw [if_pos h]
theorem waitCode_range {l : List Nat} (h : ¬ (l.length < 1 ∨ 6 < l.length)) (h2 : farIn l) : waitCode l = 4 := by unfold waitCode; rw [if_neg h, if_pos h2]
theorem waitCode_ok {l : List Nat} (h : ¬ (l.length < 1 ∨ 6 < l.length)) (h2 : ¬ farIn l) : waitCode l = 0 := by unfold waitCode; rw [if_neg h, if_neg h2]
theorem waitCode_iff (l : List Nat) : waitCode l = 0 ↔ WV l := by
  constructor
  · intro h
    by_cases h1 : l.length < 1 ∨ 6 < l.length
    · rw [waitCode_large h1] at h; omega
    · by_cases h2 : farIn l
      · rw [waitCode_range h1 h2] at h; omega
      · refine ⟨by omega, by omega, fun i => ?_⟩
        rcases Nat.lt_or_ge i l.length with hi | hi
        · apply Classical.byContradiction
          intro hn
          exact h2 ⟨i, hi, by unfold farW; rw [decide_eq_true_iff]; omega⟩
        · rw [wat_out l hi]; exact Nat.pow_pos (by omega)
  · intro h
    have h1 := h.one
    have h6 := h.six
    refine waitCode_ok (by omega) fun ⟨i, hi, hf⟩ => ?_
    have := h.small i
    unfold farW at hf
    rw [decide_eq_true_iff] at hf
    omega
theorem waitCode_cases (l : List Nat) : waitCode l = 0 ∨ waitCode l = 1 ∨ waitCode l = 4 := by
  unfold waitCode
  split
  · exact .inr (.inl rfl)
  · split
    · exact .inr (.inr rfl)
    · exact .inl rfl
/-- 1 << i, as a word. -/
theorem shl_one (i : Nat) (hi : i < 32) : (2 : Int) ^ i % 4294967296 = ((2 ^ i : Nat) : Int) := pow_mod i hi
theorem all_val (n : Nat) (hn : n ≤ 6) : ((2 : Int) ^ n % 4294967296 - 1) % 4294967296 = ((2 ^ n - 1 : Nat) : Int) := by
  rw [pow_mod n (by omega)]
  have h1 := pow_lt n (by omega)
  have h2 : 0 < 2 ^ n := Nat.pow_pos (by omega)
  generalize 2 ^ n = y at *
  omega
theorem far_iff (n x : Nat) (hn : n ≤ 6) (hx : x < 4294967296) : (bits BinOp.andNot IntKind.u32 (x : Int) ((2 ^ n - 1 : Nat) : Int) != 0) = farW n x := by
  have h1 := pow_lt n (by omega)
  have h2 : 0 < 2 ^ n := Nat.pow_pos (by omega)
  have hl : 2 ^ n - 1 < 4294967296 := by generalize 2 ^ n = y at *; omega
  rw [u32_andNot_nat x (2 ^ n - 1) hx hl, Bool.eq_iff_iff]
  unfold farW
  rw [bne_iff_ne, decide_eq_true_iff]
  have hz : (((x &&& (4294967295 - (2 ^ n - 1)) : Nat) : Int) ≠ 0) ↔ x &&& (4294967295 - (2 ^ n - 1)) ≠ 0 := by omega
  rw [hz]
  constructor
  · intro h
    apply Classical.byContradiction
    intro hlt
    apply h
    rw [andNot_zero x _ hx hl]
    intro b hb
    rw [Nat.testBit_two_pow_sub_one, decide_eq_true_iff]
    exact bit_lt (by omega) hb
  · intro h e
    rw [andNot_zero x _ hx hl] at e
    have hlt : x < 2 ^ n := by
      apply Nat.lt_pow_two_of_testBit
      intro i hi
      cases hb : x.testBit i with
      | false => rfl
      | true =>
        have := e i hb
        rw [Nat.testBit_two_pow_sub_one, decide_eq_true_iff] at this
        omega
    omega
#print axioms far_iff
#print axioms waitCode_iff
end Go.Proofs.Ytgamppdfjbcbeaa
