/-
  The contract of beaconryref.Order.
-/
import Derived.Test.YtiokfehckhbnaaaRtk
import Derived.Test.YtiokfehckhbnaaaOrd
namespace Go.Proofs.Ytiokfehckhbnaaa
open Go.RowKit Go.Maps

/-- Row O has each of the first k events at the place that the count gives. -/
def Placed (l : List Ev) (T O : Nat → Nat) (k : Nat) : Prop := ∀ i, i < k → O (cntTo (early l T) i l.length) = i
theorem Placed.step {l : List Ev} {T O : Nat → Nat} {k : Nat} (h : Placed l T O k) (hT : Rank (HB l) l.length T) (hk : k < l.length) : Placed l T (upd O (cntTo (early l T) k l.length) k) (k + 1) := by
  intro i hi
  by_cases e : i = k
  · subst e; exact upd_same _ _ _
  · rw [upd_other O _ (cnt_inj hT (by omega) hk e)]
    exact h i (by omega)

def RorRel (l : List Ev) (w : World) (T : Nat → Nat) (g1 g2 k : Nat) (wr : World) : Prop :=
  ∃ O, NatRow wr g1 l.length T ∧ NatRow wr g2 l.length O ∧ Placed l T O k ∧ Below w.heap.size w wr
def RorRes (l : List Ev) (w : World) (e : Ending) (w' : World) : Prop :=
  ∃ g O T, e = .returned (.slice (some ⟨g, 0, none⟩) l.length l.length) ∧ NatRow w' g l.length O ∧ Rank (HB l) l.length T ∧ Placed l T O l.length ∧ w.heap.size ≤ g ∧ Below w.heap.size w w'

set_option maxHeartbeats 8000000 in
set_option maxRecDepth 100000 in
theorem reforder_any (A : Option Addr) (cap : Nat) (l : List Ev) (w : World) (hE : Evs w w.heap.size A l) (h30 : l.length ≤ 30) :
    Calls Try.prog 14 #[.slice A l.length cap] w (RorRes l w) := by
  obtain ⟨i0, hi0, hz0, hz1, hz2⟩ := info_parts info3
  have hz2' : i0.bytes * l.length ≤ 281474976710656 := by rw [hz2]; omega
  have hHi := Lib.hid hi0; have hHz := Lib.hid hz0; have hHs := Lib.hid hz1
  clear hi0 hz0 hz1 hz2
  go_enter Try.func14, Try.ntmps14
  go_wp2_with fail
  refine (refticks_any A cap l _ hE h30).mono ?_
  rintro e w1 ⟨g1, T, rfl, hR1, hT, hle, hg1, hB1⟩
  have hleH := Lib.hid hle
  clear hle
  go_wp2_with (first
    | (at_make; refine wpList_make_row _ rfl _ _ 23 rfl 3 i0 (.int .i64 0) Try.underlying23 hHi.out hHz.out hHs.out rfl .i64 .i64 _ _ l.length rfl rfl rfl rfl hz2' (by unfold maxLen; omega) ?_; intro w2 hR2 hG2))
  have hB2 : Below w.heap.size w w2 := hB1.grown hG2 hB1.size (by simp)
  have hR3 : NatRow w2 g1 l.length T := Row.grown hR1 hG2 (by simp)
  have hne : g1 < w1.heap.size := Row.lt hR1
  have hlow := hB1.size
  rw [natRow_zero] at hR2
  clear hB1 hG2 hR1
  generalize w1.heap.size = g2 at *
  go_loopw [5] (fun t wr => ∃ k : Nat, k ≤ l.length ∧ t = .int .i64 k ∧ RorRel l w T g1 g2 k wr) (fun t _ => l.length - (intOf t).toNat)
  case atStart => exact ⟨0, Nat.zero_le _, rfl, _, Row.block hR3 rfl, Row.block hR2 rfl, fun i hi => by omega, hB2⟩
  case round =>
    rename World => w3
    obtain ⟨k, hk, rfl, O, hRT, hRO, hP, hB⟩ := hrel
    clear hR2 hR3 hB2
    by_cases hlt : k < l.length
    · have hkI : (k : Int) < (l.length : Int) := by omega
      go_wp2_with fail
      go_loopw [6, 7] (fun s t wr => ∃ j : Nat, j ≤ l.length ∧ t = .int .i64 j ∧ s = .int .i64 (cntTo (early l T) k j : Nat) ∧ RorRel l w T g1 g2 k wr) (fun _ t _ => l.length - (intOf t).toNat)
      case atStart => exact ⟨0, Nat.zero_le _, rfl, rfl, O, hRT, hRO, hP, hB⟩
      case round =>
        obtain ⟨j, hj, rfl, rfl, O4, hRT4, hRO4, hP4, hB4⟩ := hrel
        clear hRT hRO hP hB
        by_cases hjl : j < l.length
        · have hjI : (j : Int) < (l.length : Int) := by omega
          obtain ⟨b, off, rfl, hb, hc⟩ := hE.below hB4 (by omega)
          have p1 := (hc j hjl).1
          have p2 := (hc k hlt).1
          have y1 := hRT4.at_ hjl
          have y2 := hRT4.at_ hlt
          have t1 := hleH.out j hjl
          have t2 := hleH.out k hlt
          have hcl := cntTo_le (early l T) k j
          have hstep : Hid (cntTo (early l T) k (j + 1) = cntTo (early l T) k j + if early l T j k then 1 else 0) := rfl
          have hear : Hid (early l T j k = decide (T j < T k ∨ (T j = T k ∧ l[j].p < l[k].p))) := by unfold Hid early; rw [ev_get l hjl, ev_get l hlt]
          clear hc
          generalize l[j].p = pj at *
          generalize l[k].p = pk at *
          generalize T j = tj at *
          generalize T k = tk at *
          generalize hS : cntTo (early l T) k j = S at *
          have hSH := Lib.hid hS
          clear hS
          by_cases h1 : tj < tk
          · have hn : Hid (cntTo (early l T) k (j + 1) = S + 1) := by unfold Hid; rw [hstep.out, hear.out, decide_eq_true (.inl h1)]; rfl
            have d1 : decide (tj < tk) = true := by simp [h1]
            clear hstep hear
            go_wp2_with fail
            go_quiet (fail)
            go_wp2_with fail
            go_roundw
            case rel => exact ⟨j + 1, by omega, by go_num, int_eq1 hn.out, O4, hRT4.heap rfl, hRO4.heap rfl, hP4, below_drewN hB4 _⟩
            case measure => simp [intOf]; omega
          have d1 : decide (tj < tk) = false := by simp; omega
          by_cases h2 : tj = tk
          · have d2 : ((tj : Int) == (tk : Int)) = true := by simp [h2]
            have d2' : (tj == tk) = true := by simp [h2]
            by_cases h3 : pj < pk
            · have hn : Hid (cntTo (early l T) k (j + 1) = S + 1) := by unfold Hid; rw [hstep.out, hear.out, decide_eq_true (.inr ⟨h2, h3⟩)]; rfl
              have d3 : decide (pj < pk) = true := by simp [h3]
              clear hstep hear h2 h1
              go_wp2_with fail
              go_quiet (fail)
              go_wp2_with fail
              go_roundw
              case rel => exact ⟨j + 1, by omega, by go_num, int_eq1 hn.out, O4, hRT4.heap rfl, hRO4.heap rfl, hP4, below_drewN hB4 _⟩
              case measure => simp [intOf]; omega
            · have hn : Hid (cntTo (early l T) k (j + 1) = S) := by unfold Hid; rw [hstep.out, hear.out, decide_eq_false (by omega)]; simp
              have d3 : decide (pj < pk) = false := by simp; omega
              clear hstep hear h2 h1
              go_wp2_with fail
              go_quiet (fail)
              go_wp2_with fail
              go_roundw
              case rel => exact ⟨j + 1, by omega, by go_num, int_eq hn.out.symm, O4, hRT4.heap rfl, hRO4.heap rfl, hP4, below_drewN hB4 _⟩
              case measure => simp [intOf]; omega
          · have hn : Hid (cntTo (early l T) k (j + 1) = S) := by unfold Hid; rw [hstep.out, hear.out, decide_eq_false (by omega)]; simp
            have d2 : ((tj : Int) == (tk : Int)) = false := by simp; omega
            have d2' : (tj == tk) = false := by simp; omega
            clear hstep hear h2 h1
            go_wp2_with fail
            go_quiet (fail)
            go_wp2_with fail
            go_roundw
            case rel => exact ⟨j + 1, by omega, by go_num, int_eq hn.out.symm, O4, hRT4.heap rfl, hRO4.heap rfl, hP4, below_drewN hB4 _⟩
            case measure => simp [intOf]; omega
        · have hjl' : j = l.length := by omega
          subst hjl'
          have hcl := cntTo_lt (early_irr l T k) hlt
          have hP5 := hP4.step hT hlt
          generalize cntTo (early l T) k l.length = S at *
          have x1 := hRO4.at_ hcl
          have xf := Row.frozen hRO4 S
          have hRn := hRO4.put S k
          have hRTn : NatRow (wr.setCell ⟨g2, S, none⟩ (.int .i64 (k : Int))) g1 l.length T := Row.far hRT4 (p := ⟨g2, S, none⟩) (by show g1 ≠ g2; omega) _
          have hBn : Below w.heap.size w (wr.setCell ⟨g2, S, none⟩ (.int .i64 (k : Int))) := hB4.setCell (p := ⟨g2, S, none⟩) hlow _
          generalize upd O4 S k = O5 at *
          generalize O4 S = v at *
          clear hRO4 hRT4 hB4 hP4
          go_wp2_with fail
          go_roundw
          case rel => exact ⟨k + 1, by omega, by go_num, O5, hRTn, hRn, hP5, hBn⟩
          case measure => simp [intOf]; omega
    · have hkl : k = l.length := by omega
      subst hkl
      go_wp2_with fail
      go_ret
      exact ⟨g2, O, T, rfl, hRO, hT, hP, hlow, hB⟩

#print axioms reforder_any
end Go.Proofs.Ytiokfehckhbnaaa
