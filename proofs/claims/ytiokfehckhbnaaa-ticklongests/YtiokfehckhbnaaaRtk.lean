/-
  The contract of beaconryref.Ticks.
-/
import Derived.Test.YtiokfehckhbnaaaTbl
import Derived.Test.YtiokfehckhbnaaaNum
import Derived.Test.YtiokfehckhbnaaaPull
namespace Go.Proofs.Ytiokfehckhbnaaa
open Go.RowKit Go.Maps

def RtkRel (l : List Ev) (w : World) (g : Nat) (T : Nat) (gs : Nat → Nat) (f : Nat → Nat → Bool) (k : Nat) (wr : World) : Prop :=
  ∃ A, NatRow wr g l.length A ∧ Done (HB l) l.length k (fun j => j < k) A ∧ Tab wr w.heap.size T l.length l.length gs f ∧ Below w.heap.size w wr
def RtkMid (l : List Ev) (w : World) (g : Nat) (T : Nat) (gs : Nat → Nat) (f : Nat → Nat → Bool) (k i : Nat) (wr : World) : Prop :=
  ∃ A, NatRow wr g l.length A ∧ Pull (HB l) l.length k (fun j => j < k) k (fun j => j < i) A ∧ Tab wr w.heap.size T l.length l.length gs f ∧ Below w.heap.size w wr
/-- The timestamps are laid. -/
def RtkRes (l : List Ev) (w : World) (e : Ending) (w' : World) : Prop :=
  ∃ g A, e = .returned (.slice (some ⟨g, 0, none⟩) l.length l.length) ∧ NatRow w' g l.length A ∧ Rank (HB l) l.length A ∧ (∀ j, j < l.length → A j ≤ l.length) ∧ w.heap.size ≤ g ∧ Below w.heap.size w w'

/-- A store into a block that is none of the table's. -/
theorem Tab.far {w : World} {B T c k : Nat} {gs : Nat → Nat} {f : Nat → Nat → Bool} (h : Tab w B T c k gs f) {p : Addr} (hT : T ≠ p.block) (hg : ∀ i, i < k → gs i ≠ p.block) (u : Value) : Tab (w.setCell p u) B T c k gs f := by
  obtain ⟨⟨xs, h1, h2⟩, h3, h4, h5⟩ := h
  exact ⟨⟨xs, h1.far hT u, h2⟩, fun i hi => (h3 i hi).far (hg i hi) u, h4, h5⟩
theorem Tab.lt {w : World} {B T c k : Nat} {gs : Nat → Nat} {f : Nat → Nat → Bool} (h : Tab w B T c k gs f) {i : Nat} (hi : i < k) : gs i < w.heap.size := (h.row i hi).lt

set_option maxHeartbeats 4000000 in
set_option maxRecDepth 100000 in
theorem refticks_any (A : Option Addr) (cap : Nat) (l : List Ev) (w : World) (hE : Evs w w.heap.size A l) (h30 : l.length ≤ 30) :
    Calls Try.prog 12 #[.slice A l.length cap] w (RtkRes l w) := by
  obtain ⟨i0, hi0, hz0, hz1, hz2⟩ := info_parts info3
  have hz2' : i0.bytes * l.length ≤ 281474976710656 := by rw [hz2]; omega
  have hHi := Lib.hid hi0; have hHz := Lib.hid hz0; have hHs := Lib.hid hz1
  clear hi0 hz0 hz1 hz2
  go_enter Try.func12, Try.ntmps12
  go_wp2_with fail
  refine (table_any A cap l _ hE h30).mono ?_
  rintro e w1 h
  obtain ⟨rfl, gs, f, hT, hf, hB1⟩ := h
  have hfH := Lib.hid hf
  clear hf
  go_wp2_with (first
    | (at_make; refine wpList_make_row _ rfl _ _ 23 rfl 3 i0 (.int .i64 0) Try.underlying23 hHi.out hHz.out hHs.out rfl .i64 .i64 _ _ l.length rfl rfl rfl rfl hz2' (by unfold maxLen; omega) ?_; intro w2 hR2 hG2))
  have hB2 : Below w.heap.size w w2 := hB1.grown hG2 hB1.size (by simp)
  have hT2 := hT.grown hG2
  have htl : w.heap.size < w1.heap.size := hT.topLt
  have hgl : Hid (∀ i, i < l.length → gs i < w1.heap.size) := fun i hi => hT.lt hi
  have hlow := hB1.size
  rw [natRow_zero] at hR2
  clear hT hB1 hG2
  generalize w1.heap.size = g at *
  go_loopw [5] (fun t wr => ∃ k : Nat, k ≤ l.length ∧ t = .int .i64 k ∧ RtkRel l w g w.heap.size gs f k wr) (fun t _ => l.length - (intOf t).toNat)
  case atStart => exact ⟨0, Nat.zero_le _, rfl, _, Row.block hR2 rfl, Done.begin _ _ (fun j h => by omega), hT2.heap rfl, hB2⟩
  case round =>
    rename World => w3
    obtain ⟨k, hk, rfl, T, hR, hD, hT3, hB⟩ := hrel
    clear hR2 hT2 hB2
    by_cases hlt : k < l.length
    · go_wp2_with fail
      go_loopw [6] (fun t wr => ∃ i : Nat, i ≤ k ∧ t = .int .i64 i ∧ RtkMid l w g w.heap.size gs f k i wr) (fun t _ => k - (intOf t).toNat)
      case atStart => exact ⟨0, Nat.zero_le _, rfl, T, hR, hD.pull (by omega) (fun i h => by omega), hT3, hB⟩
      case round =>
        obtain ⟨i, hi, rfl, U, hR4, hP4, hT4, hB4⟩ := hrel
        clear hR hD hT3 hB
        by_cases hil : i < k
        · have s1 := hT4.slot (i := i) (by omega) (by omega)
          have x1 := hT4.cell (i := i) (j := k) (by omega) hlt
          have y1 := hR4.at_ (j := i) (by omega)
          have y2 := hR4.at_ (j := k) hlt
          have yf := Row.frozen hR4 k
          have u1 := hP4.le i (by omega)
          have u2 := hP4.le k hlt
          have hfi := Lib.hid (hfH.out i k (by omega) hlt)
          have hne : Hid (∀ a, a < l.length → gs a ≠ g) := fun a ha => by have := hgl.out a ha; omega
          generalize gs i = gi at *
          generalize f i k = b at *
          have hiI : (i : Int) < (l.length : Int) := by omega
          have hkI : (k : Int) < (l.length : Int) := by omega
          cases b with
          | false =>
            have hP5 : Pull (HB l) l.length k (fun j => j < k) k (fun j => j < i + 1) U := hP4.skip (y := i) (fun a ha => by omega) (fun h => by have := hfi.out.2 h; cases this)
            go_wp2_with fail
            go_quiet (fail)
            go_wp2_with fail
            go_roundw
            case rel => exact ⟨i + 1, by omega, by go_num, U, hR4.heap rfl, hP5, hT4.heap rfl, below_drewN hB4 _⟩
            case measure => simp [intOf]; omega
          | true =>
            by_cases hgt : U k < U i
            · have hP5 : Pull (HB l) l.length k (fun j => j < k) k (fun j => j < i + 1) (upd U k (max (U k) (U i))) := hP4.take (fun a b hb hab => by have := hab.lt; omega) (by omega) (fun a ha => by have := ha.lt; omega) (by omega) (hfi.out.1 rfl) (fun a ha => by omega)
              rw [Nat.max_eq_right (by omega)] at hP5
              have hRn := hR4.put k (U i)
              have hTn := hT4.far (p := ⟨g, k, none⟩) (by show w.heap.size ≠ g; omega) hne.out (.int .i64 ((U i : Nat) : Int))
              generalize upd U k (U i) = U1 at *
              clear hR4 hP4 hT4 hne
              generalize U i = a1 at *
              generalize U k = a2 at *
              have hd : decide (a2 < a1) = true := by simp [hgt]
              go_wp2_with fail
              go_quiet (fail)
              go_wp2_with fail
              go_roundw
              case rel => exact ⟨i + 1, by omega, by go_num, U1, hRn.heap rfl, hP5, hTn.heap rfl, (below_drewN hB4 _).setCell (p := ⟨g, k, none⟩) hlow _⟩
              case measure => simp [intOf]; omega
            · have hP5 : Pull (HB l) l.length k (fun j => j < k) k (fun j => j < i + 1) U := hP4.skip (y := i) (fun a ha => by omega) (fun _ => by omega)
              generalize U i = a1 at *
              generalize U k = a2 at *
              have hd : decide (a2 < a1) = false := by simp; omega
              go_wp2_with fail
              go_quiet (fail)
              go_wp2_with fail
              go_roundw
              case rel => exact ⟨i + 1, by omega, by go_num, U, hR4.heap rfl, hP5, hT4.heap rfl, below_drewN hB4 _⟩
              case measure => simp [intOf]; omega
        · have hik : i = k := by omega
          subst hik
          have hD5 : Done (HB l) l.length (i + 1) (fun j => j < i + 1) (upd U i (U i + 1)) := hP4.done (fun a b hb hab => by have := hab.lt; omega) (by omega) (fun a ha => by have := ha.lt; omega) (fun a ha => by have := ha.lt; omega) (fun j => by omega)
          have y2 := hR4.at_ (j := i) hlt
          have yf := Row.frozen hR4 i
          have u2 := hP4.le i hlt
          have hRn := hR4.put i (U i + 1)
          have hne : Hid (∀ a, a < l.length → gs a ≠ g) := fun a ha => by have := hgl.out a ha; omega
          have hTn := hT4.far (p := ⟨g, i, none⟩) (by show w.heap.size ≠ g; omega) hne.out (.int .i64 ((U i + 1 : Nat) : Int))
          have hBn : Below w.heap.size w (wr.setCell ⟨g, i, none⟩ (.int .i64 ((U i + 1 : Nat) : Int))) := hB4.setCell (p := ⟨g, i, none⟩) hlow _
          have hcast : ((U i + 1 : Nat) : Int) = (U i : Int) + 1 := by omega
          rw [hcast] at hRn hTn hBn
          generalize upd U i (U i + 1) = U1 at *
          clear hR4 hP4 hT4 hB4 hne hcast
          generalize U i = a2 at *
          go_wp2_with fail
          go_roundw
          case rel => exact ⟨i + 1, by omega, by go_num, U1, hRn, hD5, hTn, hBn⟩
          case measure => simp [intOf]; omega
    · have hkl : k = l.length := by omega
      subst hkl
      go_wp2_with fail
      go_ret
      exact ⟨g, T, rfl, hR, hD.rank (fun j hj => hj), hD.le, hlow, hB⟩

#print axioms refticks_any
end Go.Proofs.Ytiokfehckhbnaaa
