/-
  The contract of vector.raise.
-/
import Derived.Test.YtpofmhlmaejmoaaIntW
import Derived.Test.YtpofmhlmaejmoaaVPure
namespace Go.Proofs.Ytpofmhlmaejmoaa
open Go.RowKit Go.Maps

/-- Raised up to k. -/
def raised (f : Nat → Int) (a : List Int) (k : Nat) : Nat → Int := fun i => if i < k then max (f i) (vat a i) else f i
theorem raised_step (f : Nat → Int) (a : List Int) (k : Nat) : updI (raised f a k) k (max (f k) (vat a k)) = raised f a (k + 1) := by
  funext i
  unfold updI raised
  by_cases h : i = k
  · subst h; rw [if_pos rfl, if_pos (by omega)]
  · rw [if_neg h]
    by_cases h1 : i < k
    · rw [if_pos h1, if_pos (by omega)]
    · rw [if_neg h1, if_neg (by omega)]

def RaiseRel (w : World) (g c : Nat) (f : Nat → Int) (a : List Int) (k : Nat) (wr : World) : Prop := IntRow wr g c (raised f a k) ∧ Below g w wr ∧ wr.heap.size = w.heap.size

set_option maxHeartbeats 800000 in
theorem raise_any (g c : Nat) (f : Nat → Int) (A : Option Addr) (cap : Nat) (a : List Int) (w : World) (hR : IntRow w g c f) (hA : Nums w g A a) (hac : a.length ≤ c) (hc : c ≤ 1000) :
    Calls Try.prog 36 #[.slice (some ⟨g, 0, none⟩) c c, .slice A a.length cap] w fun e w' => e = .returned (.tuple #[]) ∧ IntRow w' g c (raised f a a.length) ∧ Below g w w' ∧ w'.heap.size = w.heap.size := by
  have hglt := Row.lt hR
  go_enter Try.func36, Try.ntmps36
  go_wp2_with fail
  go_loopw [8] (fun t wr => ∃ k : Nat, k ≤ a.length ∧ t = .int .i64 k ∧ RaiseRel w g c f a k wr) (fun t _ => a.length - (intOf t).toNat)
  case atStart => exact ⟨0, Nat.zero_le _, rfl, hR.congr (fun j _ => by simp [raised]), Below.refl _ _, rfl⟩
  case round =>
    obtain ⟨k, hk, rfl, hR2, hB, hsz⟩ := hrel
    clear hR
    by_cases hlt : k < a.length
    · obtain ⟨b, off, rfl, hb, hcs⟩ := hA.below hB (by omega)
      have x1 := hcs k hlt
      rw [← vat_get a hlt] at x1
      have x2 := hR2.at_ (j := k) (by omega)
      have e2 : raised f a k k = f k := by simp [raised]
      rw [e2] at x2
      have xf := Row.frozen hR2 k
      have hRn := hR2.put k (max (f k) (vat a k))
      rw [raised_step] at hRn
      have hBn : Below g w (wr.setCell ⟨g, k, none⟩ (.int .i64 (max (f k) (vat a k)))) := hB.setCell (p := ⟨g, k, none⟩) (Nat.le_refl _) _
      have hszn : (wr.setCell ⟨g, k, none⟩ (.int .i64 (max (f k) (vat a k)))).heap.size = w.heap.size := by simp; exact hsz
      clear hcs e2 hR2 hB hsz
      generalize f k = u at *
      generalize vat a k = v at *
      have hmax : max u v = if u < v then v else u := by split <;> omega
      rw [hmax] at hRn hBn hszn
      clear hmax
      have hRH := Lib.hid hRn
      clear hRn
      have hkI : (k : Int) < (c : Int) := by omega
      go_wp2_with fail
      go_roundw
      case rel => exact ⟨k + 1, by omega, by go_num, hRH.out, hBn, hszn⟩
      case measure => simp [intOf]; omega
    · have hkl : k = a.length := by omega
      subst hkl
      go_wp2_with fail
      go_end0
      exact ⟨rfl, hR2, hB, hsz⟩

#print axioms raise_any
end Go.Proofs.Ytpofmhlmaejmoaa
