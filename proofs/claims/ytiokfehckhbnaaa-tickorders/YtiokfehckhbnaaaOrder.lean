/-
  The contract of tick.Order.
-/
import Derived.Test.YtiokfehckhbnaaaTck
import Derived.Test.YtiokfehckhbnaaaChk
import Derived.Test.YtiokfehckhbnaaaSrt
import Derived.Test.YtiokfehckhbnaaaOcl
import Derived.Test.YtiokfehckhbnaaaOrd
namespace Go.Proofs.Ytiokfehckhbnaaa
open Go.RowKit Go.Maps Go.Sort

theorem cfO_neg (t1 p1 t2 p2 : Int) : cfO t1 p1 t2 p2 < 0 ↔ t1 < t2 ∨ (t1 = t2 ∧ p1 < p2) := by
  unfold cfO
  by_cases h : cmp3 t1 t2 = 0
  · rw [if_pos h, cmp3_neg]
    rw [cmp3_zero] at h
    omega
  · rw [if_neg h, cmp3_neg]
    rw [cmp3_zero] at h
    omega
/-- The comparison of two events. -/
def cfE (l : List Ev) (T : Nat → Nat) (x y : Nat) : Int := cfO (T x) (ev l x).p (T y) (ev l y).p
theorem cfE_neg (l : List Ev) (T : Nat → Nat) (x y : Nat) : cfE l T x y < 0 ↔ early l T x y = true := by
  unfold cfE early
  rw [cfO_neg, decide_eq_true_eq]
  omega

set_option maxHeartbeats 800000 in
theorem torder_no (A : Option Addr) (cap : Nat) (l : List Ev) (n : Int) (w : World) (hE : Evs w w.heap.size A l) (hF : Fits l) (hl : l.length ≤ maxLen) (h0 : ¬ checkCode n l = 0) :
    Calls Try.prog 13 #[.int .i64 n, .slice A l.length cap] w fun e w' => e = .returned (.tuple #[.slice none 0 0, .int .i64 (checkCode n l)]) ∧ Below w.heap.size w w' := by
  have hb0 : (checkCode n l != 0) = true := by simp [h0]
  have h0H := Lib.hid h0
  have hB0 : Below w.heap.size w (w.alloc (.cells #[.slice A l.length cap] 22)) := (Below.refl _ _).alloc (Nat.le_refl _) _
  have hE0 := (hE.below hB0).more hB0.size
  clear h0
  go_enter Try.func13, Try.ntmps13
  go_wp2_with fail
  refine (check_any A cap l n _ hE0 hF hl).mono ?_
  rintro e w1 ⟨rfl, hB1⟩
  have hB := hB0.trans (hB1.mono hB0.size)
  go_wp2_with fail
  go_ret2
  exact ⟨rfl, hB⟩

/-- The order, and no error. -/
def OrderRes (l : List Ev) (w : World) (e : Ending) (w' : World) : Prop :=
  ∃ (g : Nat) (s : List Nat) (T : Nat → Nat), e = .returned (.tuple #[.slice (some ⟨g, 0, none⟩) l.length l.length, .int .i64 0]) ∧ s.length = l.length ∧ s.Perm (List.range l.length) ∧ Rank (HB l) l.length T ∧ s.Pairwise (fun a b => early l T a b = true) ∧
    Nums w' w'.heap.size (some ⟨g, 0, none⟩) (s.map Int.ofNat) ∧ Below w.heap.size w w'

set_option maxHeartbeats 2000000 in
theorem torder_ok (A : Option Addr) (cap : Nat) (l : List Ev) (n : Int) (w : World) (hE : Evs w w.heap.size A l) (hF : Fits l) (h0 : checkCode n l = 0) :
    Calls Try.prog 13 #[.int .i64 n, .slice A l.length cap] w (OrderRes l w) := by
  have hb0 : (checkCode n l != 0) = false := by simp [h0]
  obtain ⟨⟨_, _, h30⟩, hg⟩ := check_good.1 h0
  have hl : l.length ≤ maxLen := by unfold maxLen; omega
  have h0H := Lib.hid h0
  have hB0 : Below w.heap.size w (w.alloc (.cells #[.slice A l.length cap] 22)) := (Below.refl _ _).alloc (Nat.le_refl _) _
  have hE0 := (hE.below hB0).more hB0.size
  have hc0 : (w.alloc (.cells #[.slice A l.length cap] 22)).cell? ⟨w.heap.size, 0, none⟩ = some (.slice A l.length cap) := by simp [World.cell?_alloc_new]
  have hs0 : w.heap.size < (w.alloc (.cells #[.slice A l.length cap] 22)).heap.size := by simp
  have hc0H := Lib.hid hc0
  clear h0 hc0
  go_enter Try.func13, Try.ntmps13
  go_wp2_with fail
  refine (check_any A cap l n _ hE0 hF hl).mono ?_
  rintro e w1 ⟨rfl, hB1⟩
  have hc1 : w1.cell? ⟨w.heap.size, 0, none⟩ = some (.slice A l.length cap) := (hB1.cell (p := ⟨w.heap.size, 0, none⟩) hs0).trans hc0H.out
  have hs1 : w.heap.size < w1.heap.size := by have := hB1.size; omega
  have hB01 := hB0.trans (hB1.mono hB0.size)
  have hE1 := (hE.below hB01).more hB01.size
  clear hB1 hB0 hE0 hc0H hs0
  go_wp2_with fail
  refine (ticks_any A cap l n _ hE1 hF h30 hg).mono ?_
  rintro e w2 ⟨T, rfl, hR2, hT, hle, hB2'⟩
  have hc2 : w2.cell? ⟨w.heap.size, 0, none⟩ = some (.slice A l.length cap) := (hB2'.cell (p := ⟨w.heap.size, 0, none⟩) hs1).trans hc1
  have hB2 := hB01.trans (hB2'.mono hB01.size)
  have hs2 : w1.heap.size < w2.heap.size := Row.lt hR2
  clear hB2' hB01 hE1 hc1
  generalize w1.heap.size = g at *
  have hB3 : Below w.heap.size w (w2.alloc (.cells #[.slice (some ⟨g, 0, none⟩) l.length l.length] 23)) := hB2.alloc hB2.size _
  have hR3 : NatRow (w2.alloc (.cells #[.slice (some ⟨g, 0, none⟩) l.length l.length] 23)) g l.length T := Row.alloc hR2 _
  have hc3 := cell_alloc2 (.cells #[.slice (some ⟨g, 0, none⟩) l.length l.length] 23) hc2 (by show w.heap.size < w2.heap.size; omega)
  have hd3 : (w2.alloc (.cells #[.slice (some ⟨g, 0, none⟩) l.length l.length] 23)).cell? ⟨w2.heap.size, 0, none⟩ = some (.slice (some ⟨g, 0, none⟩) l.length l.length) := by simp [World.cell?_alloc_new]
  have hs3 : w2.heap.size < (w2.alloc (.cells #[.slice (some ⟨g, 0, none⟩) l.length l.length] 23)).heap.size := by simp
  have hcH := Lib.hid hc3
  have hdH := Lib.hid hd3
  clear hc3 hd3
  have hs12 : w.heap.size < w2.heap.size := by omega
  go_wp2_with fail
  refine (numbers_any l.length _ h30).mono ?_
  rintro e w4 ⟨rfl, hR4, hB4'⟩
  have hlt4 := Row.lt hR4
  generalize w2.alloc (.cells #[.slice (some ⟨g, 0, none⟩) l.length l.length] 23) = w3 at *
  have hB4 := hB3.trans (hB4'.mono hB3.size)
  have hR5 : NatRow w4 g l.length T := Row.below hR3 hB4' (by omega)
  have hc4 : w4.cell? ⟨w.heap.size, 0, none⟩ = some (.slice A l.length cap) := (hB4'.cell (p := ⟨w.heap.size, 0, none⟩) (by show w.heap.size < w3.heap.size; omega)).trans hcH.out
  have hd4 : w4.cell? ⟨w2.heap.size, 0, none⟩ = some (.slice (some ⟨g, 0, none⟩) l.length l.length) := (hB4'.cell (p := ⟨w2.heap.size, 0, none⟩) hs3).trans hdH.out
  have hlow := hB3.size
  have hE4 := hE.below hB4
  have hc4H := Lib.hid hc4
  have hd4H := Lib.hid hd4
  clear hB4' hB3 hR3 hcH hdH hc4 hd4 hR2 hB2 hc2
  generalize w3.heap.size = blk at *
  generalize w2.heap.size = bs at *
  go_wp2_with fail
  by_cases hz : l.length = 0
  · refine (sortfunc_none _ _ _ _ _ hz).mono ?_
    rintro e w5 ⟨rfl, rfl⟩
    have hzH := Lib.hid hz
    clear hz
    go_wp2_with fail
    go_ret2
    refine ⟨blk, [], T, rfl, ?_, ?_, hT, List.Pairwise.nil, fun h => by simp at h, hB4⟩
    · rw [hzH.out]; rfl
    · rw [hzH.out]; exact List.Perm.refl _
  · have hsrt := sortfunc_some (cfE l T) l.length 26 #[.pointer (some ⟨bs, 0, none⟩), .pointer (some ⟨w.heap.size, 0, none⟩)] blk w4 (by omega) (by omega) hR4 (enters_fn Try.func26 (by decide) rfl)
      (fun x _ h => by rw [cfE_neg, early_irr] at h; cases h) (fun x y z _ _ _ h1 h2 => by rw [cfE_neg] at *; exact early_trans h1 h2)
      (fun x y z hx hy hz h1 h2 h3 => by
        rw [cfE_neg] at h1 h2 h3
        simp only [early, decide_eq_true_eq] at h1 h2 h3
        omega)
      (fun W hW x y hx hy => by
        obtain ⟨b, off, rfl, hb, hc⟩ := hE4 (by omega)
        have hk : ∀ k o v, k < w4.heap.size → k ≠ blk → w4.cell? ⟨k, o, none⟩ = some v → W.cell? ⟨k, o, none⟩ = some v := fun k o v h1 h2 h3 => (World.cell?_of_block (a := ⟨k, o, none⟩) (hW k h1 h2)).trans h3
        have e1 := ev_get l hx
        have e2 := ev_get l hy
        have := ordcl_any x y l.length cap bs w.heap.size g b off (T x) (T y) (ev l x).p (ev l y).p W hx hy
          (hk _ _ _ (by omega) (by omega) hd4H.out) (hk _ _ _ (by omega) (by omega) hc4H.out) (hk _ _ _ (by omega) (by omega) (hR5.at_ hx)) (hk _ _ _ (by omega) (by omega) (hR5.at_ hy))
          (hk _ _ _ (by omega) (by omega) (by rw [e1]; exact (hc x hx).1)) (hk _ _ _ (by omega) (by omega) (by rw [e2]; exact (hc y hy).1))
        exact this)
    refine hsrt.mono ?_
    rintro e w5 ⟨rfl, s, hs1', hs2', hs3', hs4', hs5', hB5'⟩
    have hst := strict_of hT hs2' (pairs_of hs3' (fun a b h => by rw [cfE_neg] at h; simpa using h))
    have hB5 := hB4.trans (hB5'.mono hlow)
    have hlt5 : blk < w5.heap.size := by have := hB5'.size; omega
    have hN : Hid (Nums w5 w5.heap.size (some ⟨blk, 0, none⟩) (s.map Int.ofNat)) := by
      intro _
      refine ⟨blk, 0, rfl, hlt5, fun i hi => ?_⟩
      have hi' : i < s.length := by simpa using hi
      rw [Nat.zero_add, hs4' i hi']
      simp
    clear hs4' hs5' hs3' hsrt
    go_wp2_with fail
    go_ret2
    exact ⟨blk, s, T, rfl, hs1', hs2', hT, hst, hN.out, hB5⟩

#print axioms torder_ok
end Go.Proofs.Ytiokfehckhbnaaa
