/-
  cut.Is, in one contract; the greater and the lesser numbers of two cuts.
-/
import Derived.Test.YtpofmhlmaejmoaaCck
namespace Go.Proofs.Ytpofmhlmaejmoaa
open Go.RowKit Go.Maps

theorem bool_of (P : Prop) : ∃ C : Bool, C = true ↔ P := by
  by_cases h : P
  · exact ⟨true, fun _ => h, fun _ => rfl⟩
  · exact ⟨false, fun h' => absurd h' (by decide), fun h' => absurd h' h⟩

theorem is_any (A Ac : Option Addr) (cap capc : Nat) (l : List Ev) (n : Int) (cv : List Int) (w : World) (hE : Evs w w.heap.size A l) (hF : Fits l) (hl : l.length ≤ maxLen) (hN : Nums w w.heap.size Ac cv) (C : Bool) (hC : Hid (C = true ↔ cutC n l cv = 0 ∧ WholeC l (vat cv))) :
    Calls Try.prog 11 #[.int .i64 n, .slice A l.length cap, .slice Ac cv.length capc] w fun e w' => e = .returned (.tuple #[.bool C, .int .i64 (cutC n l cv)]) ∧ Below w.heap.size w w' := by
  by_cases h0 : cutC n l cv = 0
  · have hn := (check_small (cutC_ok.1 h0).1).1
    obtain ⟨c, rfl⟩ := Int.eq_ofNat_of_zero_le (show 0 ≤ n by omega)
    rw [h0]
    exact is_ok A Ac cap capc l c cv w hE hF hN h0 C (Lib.hid (hC.out.trans ⟨fun h => h.2, fun h => ⟨h0, h⟩⟩))
  · have : C = false := by
      rw [← Bool.not_eq_true, hC.out]
      exact fun h => h0 h.1
    rw [this]
    exact is_bad A Ac cap capc l n cv w hE hF hl hN h0

/-- The lesser numbers. -/
def vmeet (a b : List Int) : List Int := (List.range a.length).map fun i => min (vat a i) (vat b i)
theorem vmeet_len (a b : List Int) : (vmeet a b).length = a.length := by simp [vmeet]
theorem vmeet_at (a b : List Int) {i : Nat} (h : i < a.length) : vat (vmeet a b) i = min (vat a i) (vat b i) := by
  rw [vat_get _ (by rw [vmeet_len]; exact h)]
  simp [vmeet]

theorem cutC_of {c : Nat} {l : List Ev} {cv : List Int} (h0 : checkCode (c : Int) l = 0) (hlen : cv.length = c) (hr : Ranged l c (vat cv)) : cutC (c : Int) l cv = 0 :=
  cutC_ok.2 ⟨h0, by rw [hlen], by rw [hlen]; exact hr⟩

structure TwoCuts (c : Nat) (l : List Ev) (a b : List Int) : Prop where
  chk : checkCode (c : Int) l = 0
  la : a.length = c
  lb : b.length = c
  ra : Ranged l c (vat a)
  rb : Ranged l c (vat b)
theorem twoCuts {c : Nat} {l : List Ev} {a b : List Int} (h : cutC (c : Int) l a = 0) (h' : cutC (c : Int) l b = 0) : TwoCuts c l a b := by
  obtain ⟨h1, h2, h3⟩ := cutC_ok.1 h
  obtain ⟨_, h4, h5⟩ := cutC_ok.1 h'
  have e1 : a.length = c := by omega
  have e2 : b.length = c := by omega
  rw [e1] at h3
  rw [e2] at h5
  exact ⟨h1, e1, e2, h3, h5⟩
theorem TwoCuts.more {c : Nat} {l : List Ev} {a b : List Int} (h : TwoCuts c l a b) : cutC (c : Int) l (vjoin a b) = 0 :=
  cutC_of h.chk (by rw [vjoin_len, h.la]) fun p hp => by
    rw [vjoin_at a b (by rw [h.la]; exact hp)]
    have := h.ra p hp
    have := h.rb p hp
    omega
theorem TwoCuts.less {c : Nat} {l : List Ev} {a b : List Int} (h : TwoCuts c l a b) : cutC (c : Int) l (vmeet a b) = 0 :=
  cutC_of h.chk (by rw [vmeet_len, h.la]) fun p hp => by
    rw [vmeet_at a b (by rw [h.la]; exact hp)]
    have := h.ra p hp
    have := h.rb p hp
    omega
theorem TwoCuts.moreW {c : Nat} {l : List Ev} {a b : List Int} (h : TwoCuts c l a b) (h1 : WholeC l (vat a)) (h2 : WholeC l (vat b)) : WholeC l (vat (vjoin a b)) :=
  whole_congr (check_good.1 h.chk).2 (fun p hp => (vjoin_at a b (by rw [h.la]; exact hp)).symm) (whole_max h1 h2)
theorem TwoCuts.lessW {c : Nat} {l : List Ev} {a b : List Int} (h : TwoCuts c l a b) (h1 : WholeC l (vat a)) (h2 : WholeC l (vat b)) : WholeC l (vat (vmeet a b)) :=
  whole_congr (check_good.1 h.chk).2 (fun p hp => (vmeet_at a b (by rw [h.la]; exact hp)).symm) (whole_min h1 h2)
/-- Nothing. -/
def vnone (c : Nat) : List Int := List.replicate c 0
theorem vnone_len (c : Nat) : (vnone c).length = c := by simp [vnone]
theorem vnone_at {c i : Nat} (h : i < c) : vat (vnone c) i = 0 := by
  rw [vat_get _ (by rw [vnone_len]; exact h)]
  simp [vnone]
theorem vnone_cut {c : Nat} {l : List Ev} (h0 : checkCode (c : Int) l = 0) : cutC (c : Int) l (vnone c) = 0 :=
  cutC_of h0 (vnone_len c) fun p hp => by rw [vnone_at hp]; omega
theorem vnone_whole {c : Nat} {l : List Ev} (h0 : checkCode (c : Int) l = 0) : WholeC l (vat (vnone c)) :=
  whole_congr (check_good.1 h0).2 (fun _ hp => (vnone_at hp).symm) (whole_zero l)

#print axioms is_any
end Go.Proofs.Ytpofmhlmaejmoaa
