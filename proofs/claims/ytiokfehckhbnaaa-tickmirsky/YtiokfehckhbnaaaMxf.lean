/-
  The contracts of the closure of tick.Longest and of slices.MaxFunc with it.
-/
import Derived.Test.YtiokfehckhbnaaaCmp
import Derived.Test.YtiokfehckhbnaaaOcl
import Derived.Test.YtiokfehckhbnaaaNat
import Derived.Test.YtiokfehckhbnaaaChn
import Derived.BigQuiet
import Derived.Deep.QuietTactic
namespace Go.Proofs.Ytiokfehckhbnaaa
open Go.RowKit Go.Maps

theorem cmp3_pos (a b : Int) : 0 < cmp3 a b ↔ b < a := by unfold cmp3; split <;> (try split) <;> omega

set_option maxHeartbeats 2000000 in
theorem lngcl_any (x y c bs g : Nat) (t1 t2 : Int) (w : World) (hx : x < c) (hy : y < c)
    (hs : w.cell? ⟨bs, 0, none⟩ = some (.slice (some ⟨g, 0, none⟩) c c)) (a1 : w.cell? ⟨g, x, none⟩ = some (.int .i64 t1)) (a2 : w.cell? ⟨g, y, none⟩ = some (.int .i64 t2)) :
    Calls Try.prog 32 #[.int .i64 x, .int .i64 y, .pointer (some ⟨bs, 0, none⟩)] w fun e w' => e = .returned (.int .i64 (cmp3 t1 t2)) ∧ Below w.heap.size w w' := by
  have hxI : (x : Int) < (c : Int) := by omega
  have hyI : (y : Int) < (c : Int) := by omega
  go_enter Try.func32, Try.ntmps32
  go_wp2_with fail
  go_quiet ((go_at_call 28; exact Calls.quiet_of_same (compare_at t1 t2 _)))
  go_wp2_with fail
  go_ret
  exact ⟨rfl, below_drewN (Below.refl _ _) _⟩

/-- The numbers of a slice: in memory. -/
def Reads1 (w : World) (A : Option Addr) (cs : List Nat) : Prop := ∀ q, (h : q < cs.length) → ∃ g o, A = some ⟨g, o, none⟩ ∧ g < w.heap.size ∧ w.cell? ⟨g, o + q, none⟩ = some (.int .i64 (cs[q] : Nat))
theorem Reads1.below {w w' : World} {A : Option Addr} {cs : List Nat} (h : Reads1 w A cs) (hb : Below w.heap.size w w') : Reads1 w' A cs := by
  intro q hq
  obtain ⟨g, o, h1, h2, h3⟩ := h q hq
  exact ⟨g, o, h1, by have := hb.size; omega, (hb.cell (p := ⟨g, o + q, none⟩) h2).trans h3⟩

def MxfRel (w : World) (D : Nat → Nat) (cs : List Nat) (m k : Nat) (wr : World) : Prop :=
  (∃ t, t < k ∧ ∃ h : t < cs.length, cs[t] = m ∧ ∀ s, (hs : s < t) → D (cs[s]'(by omega)) < D m) ∧ (∀ s, s < k → (h : s < cs.length) → D cs[s] ≤ D m) ∧ Below w.heap.size w wr
def MxfRes (w : World) (D : Nat → Nat) (cs : List Nat) (e : Ending) (w' : World) : Prop :=
  ∃ v : Nat, e = .returned (.int .i64 (v : Int)) ∧ FirstMax D cs v ∧ Below w.heap.size w w'

set_option maxHeartbeats 2000000 in
theorem maxfunc_any (A : Option Addr) (cap : Nat) (cs : List Nat) (c bs g : Nat) (D : Nat → Nat) (w : World) (hR : Reads1 w A cs) (h0 : 0 < cs.length) (h60 : cs.length ≤ 1000) (hcs : ∀ x ∈ cs, x < c) (hbs : bs < w.heap.size)
    (hs : w.cell? ⟨bs, 0, none⟩ = some (.slice (some ⟨g, 0, none⟩) c c)) (hD : NatRow w g c D) :
    Calls Try.prog 31 #[.slice A cs.length cap, .func (.func 32) #[] #[.pointer (some ⟨bs, 0, none⟩)]] w (MxfRes w D cs) := by
  have hn1 : ¬ (cs.length : Int) < 1 := by omega
  have hd1 : decide ((cs.length : Int) < 1) = false := by simp; omega
  have hlI : (0 : Int) < (cs.length : Int) := by omega
  obtain ⟨ga, oa, rfl, hga, hc0⟩ := hR 0 h0
  rw [Nat.add_zero] at hc0
  go_enter Try.func31, Try.ntmps31
  go_wp2_with fail
  go_loopw [5, 6] (fun m i wr => ∃ (mv k : Nat), 1 ≤ k ∧ k ≤ cs.length ∧ m = .int .i64 mv ∧ i = .int .i64 k ∧ MxfRel w D cs mv k wr) (fun _ i _ => cs.length - (intOf i).toNat)
  case atStart =>
    refine ⟨cs[0], 1, by omega, by omega, rfl, rfl, ⟨0, by omega, h0, rfl, fun s hs => by omega⟩, fun s hs h => ?_, Below.refl _ _⟩
    have : s = 0 := by omega
    subst this
    exact Nat.le_refl _
  case round =>
    obtain ⟨mv, k, hk1, hk2, rfl, rfl, ⟨t, ht1, ht2, ht3, ht4⟩, hle, hB⟩ := hrel
    by_cases hlt : k < cs.length
    · obtain ⟨ga2, oa2, hA2, _, hck⟩ := (hR.below hB) k hlt
      injection hA2 with hA2
      injection hA2 with e1 e2
      subst e1
      subst e2
      have hmc : mv < c := hcs mv (ht3 ▸ List.getElem_mem ht2)
      have hxc : cs[k] < c := hcs _ (List.getElem_mem hlt)
      have hDr : NatRow wr g c D := Row.below hD hB (Row.lt hD)
      have hsr : wr.cell? ⟨bs, 0, none⟩ = some (.slice (some ⟨g, 0, none⟩) c c) := (hB.cell (p := ⟨bs, 0, none⟩) hbs).trans hs
      have hcl := lngcl_any cs[k] mv c bs g (D cs[k]) (D mv) wr hxc hmc hsr (hDr.at_ hxc) (hDr.at_ hmc)
      have hleH := Lib.hid hle
      have htH : Hid (∃ t, t < k ∧ ∃ h : t < cs.length, cs[t] = mv ∧ ∀ s, (hs : s < t) → D (cs[s]'(by omega)) < D mv) := ⟨t, ht1, ht2, ht3, ht4⟩
      have hkI : (k : Int) < (cs.length : Int) := by omega
      clear hle ht3 ht4 hDr hsr
      obtain ⟨xv, hxv⟩ : ∃ xv, Hid (cs[k] = xv) := ⟨cs[k], Lib.hid rfl⟩
      rw [hxv.out] at hck hcl
      by_cases hgt : D mv < D xv
      · have hp : 0 < cmp3 (D xv) (D mv) := (cmp3_pos _ _).2 (by omega)
        generalize cmp3 (D xv) (D mv) = d at *
        have hdd : decide (0 < d) = true := by simp [hp]
        go_wp2_with fail
        refine hcl.mono ?_
        rintro e w2 ⟨rfl, hB2'⟩
        have hck2 : w2.cell? ⟨ga, oa + k, none⟩ = some (.int .i64 (xv : Int)) := (hB2'.cell (p := ⟨ga, oa + k, none⟩) (by have := hB.size; show ga < wr.heap.size; omega)).trans hck
        have hB2 := hB.trans (hB2'.mono hB.size)
        clear hB2'
        go_wp2_with fail
        go_roundw
        case rel =>
          refine ⟨xv, k + 1, by omega, by omega, rfl, by go_num, ⟨k, by omega, hlt, hxv.out, fun s hs => by have := hleH.out s hs (by omega); omega⟩, fun s hs h => ?_, hB2⟩
          rcases Nat.lt_or_ge s k with h1 | h1
          · have := hleH.out s h1 h; omega
          · have : s = k := by omega
            subst this
            rw [hxv.out]; exact Nat.le_refl _
        case measure => simp [intOf]; omega
      · have hp : ¬ 0 < cmp3 (D xv) (D mv) := fun h => by have := (cmp3_pos _ _).1 h; omega
        generalize cmp3 (D xv) (D mv) = d at *
        have hdd : decide (0 < d) = false := by simp; omega
        go_wp2_with fail
        refine hcl.mono ?_
        rintro e w2 ⟨rfl, hB2'⟩
        have hB2 := hB.trans (hB2'.mono hB.size)
        clear hB2'
        go_wp2_with fail
        go_roundw
        case rel =>
          obtain ⟨t, h1, h2, h3, h4⟩ := htH.out
          refine ⟨mv, k + 1, by omega, by omega, rfl, by go_num, ⟨t, by omega, h2, h3, h4⟩, fun s hs h => ?_, hB2⟩
          rcases Nat.lt_or_ge s k with h1 | h1
          · exact hleH.out s h1 h
          · have : s = k := by omega
            subst this
            rw [hxv.out]; omega
        case measure => simp [intOf]; omega
    · have hkl : k = cs.length := by omega
      subst hkl
      go_wp2_with fail
      go_ret
      exact ⟨mv, rfl, ⟨⟨t, ht2, ht3, ht4⟩, fun s h => hle s h h⟩, hB⟩

#print axioms maxfunc_any
end Go.Proofs.Ytiokfehckhbnaaa
