/-
  The contract of tick.ticks.
-/
import Derived.Test.YtiokfehckhbnaaaFol
import Derived.Test.YtiokfehckhbnaaaTks
import Derived.BigQuiet
import Derived.Deep.QuietTactic
namespace Go.Proofs.Ytiokfehckhbnaaa
open Go.RowKit Go.Maps

def TckRel (l : List Ev) (w : World) (F : Nat) (vs : Nat → Value) (k : Nat) (wr : World) : Prop :=
  ∃ A, NatRow wr w.heap.size l.length A ∧ TInv l k A ∧ Lists wr F F l.length vs (fol l) ∧ Below w.heap.size w wr
def TckMid (l : List Ev) (w : World) (F : Nat) (vs : Nat → Value) (k q : Nat) (wr : World) : Prop :=
  ∃ A, NatRow wr w.heap.size l.length A ∧ TMid l k q A ∧ Lists wr F F l.length vs (fol l) ∧ Below w.heap.size w wr
/-- The timestamps are laid. -/
def TckRes (l : List Ev) (w : World) (e : Ending) (w' : World) : Prop :=
  ∃ A, e = .returned (.slice (some ⟨w.heap.size, 0, none⟩) l.length l.length) ∧ NatRow w' w.heap.size l.length A ∧ Rank (HB l) l.length A ∧ (∀ j, j < l.length → A j ≤ l.length) ∧ Below w.heap.size w w'

set_option maxHeartbeats 4000000 in
set_option maxRecDepth 100000 in
theorem ticks_any (A : Option Addr) (cap : Nat) (l : List Ev) (n : Int) (w : World) (hE : Evs w w.heap.size A l) (hF : Fits l) (h30 : l.length ≤ 30) (hg : Good n l) :
    Calls Try.prog 22 #[.slice A l.length cap] w (TckRes l w) := by
  obtain ⟨i0, hi0, hz0, hz1, hz2⟩ := info_parts info3
  have hz2' : i0.bytes * l.length ≤ 281474976710656 := by rw [hz2]; omega
  have hHi := Lib.hid hi0; have hHz := Lib.hid hz0; have hHs := Lib.hid hz1
  clear hi0 hz0 hz1 hz2
  go_enter Try.func22, Try.ntmps22
  go_wp2_with (first
    | (at_make; refine wpList_make_row _ rfl _ _ 23 rfl 3 i0 (.int .i64 0) Try.underlying23 hHi.out hHz.out hHs.out rfl .i64 .i64 _ _ l.length rfl rfl rfl rfl hz2' (by unfold maxLen; omega) ?_; intro w1 hR1 hG1))
  have hB1 : Below w.heap.size w w1 := (Below.refl _ _).grown hG1 (Nat.le_refl _) (by simp)
  have hlt1 := hR1.lt
  refine (followers_any A cap l n _ ((hE.below hB1).more hB1.size) hF h30 hg).mono ?_
  rintro e w2 ⟨vs, rfl, hLs, hB2'⟩
  have hR2 : NatRow w2 w.heap.size l.length (fun _ => 0) := by
    rw [natRow_zero] at hR1
    exact Row.below hR1 hB2' hlt1
  have hB2 := hB1.trans (hB2'.mono hB1.size)
  have hs := hg.sole
  clear hB2' hB1 hR1 hG1
  generalize w1.heap.size = F at *
  go_wp2_with fail
  go_loopw [14] (fun i wr => ∃ k : Nat, k ≤ l.length ∧ i = .int .i64 k ∧ TckRel l w F vs k wr) (fun i _ => l.length - (intOf i).toNat)
  case atStart => exact ⟨0, Nat.zero_le _, rfl, _, hR2, TInv.start l, hLs, hB2⟩
  case round =>
    rename World => w3
    obtain ⟨k, hk, rfl, T, hR, hI, hL, hB⟩ := hrel
    clear hR2 hLs hB2
    by_cases hlt : k < l.length
    · obtain ⟨Ak, ck, hvk, hck, hck2, _⟩ := hL.shape hlt
      have hvH := Lib.hid hvk
      have s1 := hL.slot hlt
      rw [hvk] at s1
      clear hvk
      have hfl := folTo_len l l.length k
      have hfl2 : (fol l k).length ≤ 60 := by unfold fol; omega
      have hc1 := hR.at_ hlt
      have hfz := Row.frozen hR k
      have hTk := hI.fin.le k hlt
      have hI2 := hI.mid hlt
      have hR3 := hR.put k (T k + 1)
      have hL3 := hL.far (p := ⟨w.heap.size, k, none⟩) (by show F ≠ w.heap.size; omega) (hL.off hlt1) (.int .i64 ((T k + 1 : Nat) : Int))
      have hB3 : Below w.heap.size w (w3.setCell ⟨w.heap.size, k, none⟩ (.int .i64 ((T k + 1 : Nat) : Int))) := hB.setCell (p := ⟨w.heap.size, k, none⟩) (Nat.le_refl _) _
      generalize upd T k (T k + 1) = T1 at *
      generalize hTT : T k = t at *
      have hcast : ((t + 1 : Nat) : Int) = (t : Int) + 1 := by omega
      rw [hcast] at hR3 hL3 hB3
      clear hTT hcast hI hL hR hB
      go_wp2_with fail
      go_loopw [27] (fun t wr => ∃ q : Nat, q ≤ (fol l k).length ∧ t = .int .i64 q ∧ TckMid l w F vs k q wr) (fun t _ => (fol l k).length - (intOf t).toNat)
      case atStart => exact ⟨0, Nat.zero_le _, rfl, T1, hR3, hI2, hL3, hB3⟩
      case round =>
        obtain ⟨q, hq, rfl, U, hR4, hI4, hL4, hB4⟩ := hrel
        clear hR3 hI2 hL3 hB3 hc1 hfz s1
        by_cases hql : q < (fol l k).length
        · obtain ⟨g, rfl, hgF, hgl, cq⟩ := hL4.cellAt hlt hvH.out hql
          have hn0 := ((fol_mem l k _).1 (List.getElem_mem hql)).lt
          have hst := hI4.step hql
          generalize (fol l k)[q] = j0 at *
          obtain ⟨hkj, hjl⟩ := hn0
          have x1 := hR4.at_ hjl
          have x2 := hR4.at_ hlt
          have xf := Row.frozen hR4 j0
          have u1 := hI4.fin.le j0 hjl
          have u2 := hI4.fin.le k hlt
          have hRn := hR4.put j0 (max (U j0) (U k))
          have hLn := hL4.far (p := ⟨w.heap.size, j0, none⟩) (by show F ≠ w.heap.size; omega) (hL4.off hlt1) (.int .i64 ((max (U j0) (U k) : Nat) : Int))
          have hBn : Below w.heap.size w (wr.setCell ⟨w.heap.size, j0, none⟩ (.int .i64 ((max (U j0) (U k) : Nat) : Int))) := hB4.setCell (p := ⟨w.heap.size, j0, none⟩) (Nat.le_refl _) _
          generalize upd U j0 (max (U j0) (U k)) = U1 at *
          clear hR4 hI4 hL4 hB4
          generalize U j0 = a at *
          generalize U k = b at *
          have hjI : (j0 : Int) < (l.length : Int) := by omega
          have hkI : (k : Int) < (l.length : Int) := by omega
          have hmax : ((max a b : Nat) : Int) = if a < b then (b : Int) else (a : Int) := by split <;> omega
          rw [hmax] at hRn hLn hBn
          clear hmax
          go_wp2_with fail
          go_region
          go_wp2_with fail
          go_roundw
          case rel => exact ⟨q + 1, by omega, by go_num, U1, hRn.heap rfl, hst, hLn.heap rfl, hBn.drew⟩
          case measure => simp [intOf]; omega
        · have hql' : q = (fol l k).length := by omega
          subst hql'
          go_wp2_with fail
          go_roundw
          case rel => exact ⟨k + 1, by omega, by go_num, U, hR4, hI4.done, hL4, hB4⟩
          case measure => simp [intOf]; omega
    · have hkl : k = l.length := by omega
      subst hkl
      go_wp2_with fail
      go_ret
      exact ⟨T, rfl, hR, hI.rank hs, hI.fin.le, hB⟩

#print axioms ticks_any
end Go.Proofs.Ytiokfehckhbnaaa
