/-
  ring.Lead, whatever it is asked.
-/
import Derived.Test.YtcmfpnghejapbaaEld
namespace Go.Proofs.Ytcmfpnghejapbaa
open Go.RowKit Go.Maps

/-- What Lead answers. -/
structure LdIs (l : List Int) (bl : List Bool) (i k : Nat) : Prop where
  no : ¬ lcode l bl = 0 → i = 0 ∧ k = 0
  ok : lcode l bl = 0 → ∃ T, LeadAt l (bat bl) T i ∧ k = (sim l (bat bl) T).ms

theorem lead_any (w : World) (A : Option Addr) (cap : Nat) (l : List Int) (hN : Nums w w.heap.size A l) (hF : NumFits l) (hc : l.length ≤ cap) (hl : l.length ≤ 17592186044416) (Ab : Option Addr) (capb : Nat) (bl : List Bool) (hb : Bits w w.heap.size Ab bl) :
    Calls Try.prog 10 #[.slice A l.length cap, .slice Ab bl.length capb] w fun e w' => ∃ i k : Nat, e = .returned (.tuple #[.int .i64 (i : Int), .int .i64 (k : Int), .int .i64 (lcode l bl)]) ∧ Below w.heap.size w w' ∧ LdIs l bl i k := by
  by_cases h0 : lcode l bl = 0
  · obtain ⟨hR, hbl, ha⟩ := (lcode_ok l bl).1 h0
    obtain ⟨T, m, hL⟩ := lead_ends hR (b := bat bl) (by rw [← hbl]; exact ha)
    refine (lead_ok w A cap l hN hF hc hR Ab capb bl hb hbl T m hL ha).mono fun e w' ⟨he, hB⟩ => ?_
    exact ⟨m, _, by rw [h0]; exact he, hB, fun h => absurd h0 h, fun _ => ⟨T, hL, rfl⟩⟩
  · refine (lead_no w A cap l hN hc hl Ab capb bl hb h0).mono fun e w' ⟨he, hw⟩ => ?_
    subst hw
    exact ⟨0, 0, he, Below.refl _ _, fun _ => ⟨rfl, rfl⟩, fun h => absurd h h0⟩

theorem leadAt_uniq {l : List Int} {b : Nat → Bool} {T T' m m' : Nat} (h : LeadAt l b T m) (h' : LeadAt l b T' m') : T = T' ∧ m = m' := by
  have hT : T = T' := by
    rcases Nat.lt_trichotomy T T' with h1 | h1 | h1
    · have := h'.first T h1 m h.lt; rw [h.is] at this; cases this
    · exact h1
    · have := h.first T' h1 m' h'.lt; rw [h'.is] at this; cases this
  subst hT
  exact ⟨rfl, h'.sole m h.lt h.is⟩

/-- One of the first k bools is true. -/
def anyTo (bl : List Bool) : Nat → Bool
  | 0 => false
  | k + 1 => anyTo bl k || bat bl k
theorem anyTo_iff (bl : List Bool) (k : Nat) : anyTo bl k = true ↔ ∃ p, p < k ∧ bat bl p = true := by
  induction k with
  | zero => simp [anyTo]
  | succ k ih =>
    unfold anyTo
    rw [Bool.or_eq_true, ih]
    constructor
    · rintro (⟨p, h1, h2⟩ | h)
      · exact ⟨p, by omega, h2⟩
      · exact ⟨k, by omega, h⟩
    · rintro ⟨p, h1, h2⟩
      by_cases e : p = k
      · rw [e] at h2; exact .inr h2
      · exact .inl ⟨p, by omega, h2⟩
#print axioms lead_any
end Go.Proofs.Ytcmfpnghejapbaa
