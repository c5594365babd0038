/-
  The contracts of (*system).works and (*system).way of package quiet.
-/
import Derived.Test.YtichcahlokjblaaQrl
import Derived.Test.YtichcahlokjblaaWrd
namespace Go.Proofs.Ytichcahlokjblaa
open Go.RowKit Go.Maps
set_option linter.unusedVariables false

def WksRel (w wr : World) : Prop := Below w.heap.size w wr
set_option maxHeartbeats 1600000 in
theorem works_any (w : World) (B s P M n c : Nat) (S : QS) (ex : Nat → Int) (hS : SysQ w B s P M n c S ex) (hn : n ≤ 6) :
    Calls Try.prog 14 #[.pointer (some ⟨s, 0, none⟩)] w fun e w' => e = .returned (.int .u32 (wordB n S.act : Int)) ∧ Below w.heap.size w w' := by
  obtain ⟨s0, s1⟩ := hS.cells
  have hSH := Lib.hid hS
  clear hS s1
  go_enter Try.func14, Try.ntmps14
  go_wp2_with fail
  go_loopw [11, 3] (fun t v wr => ∃ k : Nat, k ≤ n ∧ t = .int .i64 k ∧ v = .int .u32 (wordB k S.act : Int) ∧ WksRel w wr) (fun t _ _ => n - (intOf t).toNat)
  case atStart => exact ⟨0, Nat.zero_le _, rfl, rfl, Below.refl _ _⟩
  case round =>
    obtain ⟨k, hk, rfl, rfl, hB⟩ := hrel
    unfold WksRel at hB
    by_cases hlt : k < n
    · have hkI : (k : Int) < (n : Int) := by omega
      obtain ⟨p0, p1, p2, p3⟩ := (hSH.out.below hB).prs.cells hlt
      have hk32 : k < 32 := by omega
      have hkI2 : (k : Int) < 32 := by omega
      have hW := wordB_small (k := k) (by omega) S.act
      have ha := Lib.hid (wordB_add k S.act)
      have hz := Lib.hid (wordB_skip k S.act)
      have ho : Hid (S.act k = true → wordB (k + 1) S.act = wordB k S.act ||| 2 ^ k) := fun h => by rw [wordB, if_pos h]
      have hBa := Lib.hid (hB.alloc hB.size (.cells #[.bool (S.act k), .bool (S.eng k), .int .i64 (S.par k : Int), .int .i64 (ex k)] 56))
      clear hB
      cases hb : S.act k with
      | true =>
        rw [hb] at p0 hBa ho
        have hnx := Lib.hid (ho.out rfl)
        clear ha hz ho
        generalize wordB k S.act = V at *
        generalize S.eng k = g at *
        generalize S.par k = r at *
        generalize ex k = x at *
        have s1 := set_val V k (by omega) hk32
        go_wp2_with fail
        go_roundw
        case rel => exact ⟨k + 1, by omega, by go_num, by rw [hnx.out], hBa.out⟩
        case measure => simp [intOf]; omega
      | false =>
        rw [hb] at p0 hBa
        have hnx := Lib.hid (hz.out hb)
        clear ha hz ho
        generalize wordB k S.act = V at *
        generalize S.eng k = g at *
        generalize S.par k = r at *
        generalize ex k = x at *
        go_wp2_with fail
        go_roundw
        case rel => exact ⟨k + 1, by omega, by go_num, by rw [hnx.out], hBa.out⟩
        case measure => simp [intOf]; omega
    · have hkn : k = n := by omega
      subst hkn
      go_wp2_with fail
      go_ret
      exact ⟨rfl, hB⟩

/-! Sums of two indices. -/
def sumP (n : Nat) (f : Nat → Nat → Int) : Int := sumN n fun i => sumN n (f i)
theorem sumP_congr {n : Nat} {f g : Nat → Nat → Int} (h : ∀ i j, i < n → j < n → g i j = f i j) : sumP n g = sumP n f := sumN_congr fun i hi => sumN_congr fun j hj => h i j hi hj
theorem sumP_at {n : Nat} {f g : Nat → Nat → Int} {a b : Nat} (ha : a < n) (hb : b < n) (h : ∀ i j, ¬ (i = a ∧ j = b) → g i j = f i j) : sumP n g = sumP n f - f a b + g a b := by
  unfold sumP
  rw [sumN_at ha (f := fun i => sumN n (f i)) (g := fun i => sumN n (g i)) (fun x hx => sumN_congr fun j _ => h x j (fun e => hx e.1))]
  rw [sumN_at hb (f := f a) (g := g a) (fun x hx => h a x (fun e => hx e.2))]
  omega
theorem sumP_nonneg {n : Nat} {f : Nat → Nat → Int} (h : ∀ i j, i < n → j < n → 0 ≤ f i j) : 0 ≤ sumP n f := sumN_nonneg fun i hi => sumN_nonneg fun j hj => h i j hi hj
theorem sumP_zero {n : Nat} {f : Nat → Nat → Int} (h : ∀ i j, i < n → j < n → 0 ≤ f i j) : sumP n f = 0 ↔ ∀ i j, i < n → j < n → f i j = 0 := by
  unfold sumP
  rw [sumN_zero_iff (fun i hi => sumN_nonneg fun j hj => h i j hi hj)]
  constructor
  · intro e i j hi hj
    exact (sumN_zero_iff (fun j hj => h i j hi hj)).1 (e i hi) j hj
  · intro e i hi
    exact (sumN_zero_iff (fun j hj => h i j hi hj)).2 fun j hj => e i j hi hj
theorem sumP_le {n : Nat} {f : Nat → Nat → Int} (hn : n ≤ 6) (h : ∀ i j, i < n → j < n → f i j ≤ 900) : sumP n f ≤ 40000 := by
  have h1 : sumP n f ≤ n * 5400 := sumN_le fun i hi => by
    have : sumN n (f i) ≤ n * 900 := sumN_le fun j hj => h i j hi hj
    omega
  omega
/-- How many are on all ways. -/
def wayS (n : Nat) (S : QS) : Int := sumP n fun i j => (S.tr i j : Int)
def left (f : Nat → Nat → Option Int) (L : Nat → Nat → Bool) : Nat → Nat → Int := fun i j => if L i j = true then 0 else (f i j).getD 0
def WyRel (w : World) (M r c n : Nat) (f : Nat → Nat → Option Int) (v : Value) (wr : World) : Prop := ∃ L, RngC wr M r c f L ∧ v = .int .i64 (sumP n (left f L)) ∧ w.heap.size ≤ r ∧ Below w.heap.size w wr

set_option maxHeartbeats 1600000 in
theorem way_any (w : World) (B s P M n c : Nat) (S : QS) (ex : Nat → Int) (hS : SysQ w B s P M n c S ex) (hn : n ≤ 6) (htr : ∀ a b, S.tr a b ≤ 900) :
    Calls Try.prog 15 #[.pointer (some ⟨s, 0, none⟩)] w fun e w' => e = .returned (.int .i64 (wayS n S)) ∧ Below w.heap.size w w' := by
  obtain ⟨s0, s1⟩ := hS.cells
  obtain ⟨f, hM, f2, f3⟩ := hS.map
  have hge : Hid (∀ i j, i < n → j < n → 0 ≤ (f i j).getD 0 ∧ (f i j).getD 0 ≤ 900) := fun i j hi hj => by
    have := f2 i j hi hj
    have := htr i j
    omega
  have hend : Hid (∀ L, (∀ i j v, f i j = some v → L i j = false) → sumP n (left f L) = wayS n S) := fun L hL => sumP_congr fun i j hi hj => by
    unfold left
    rw [← f2 i j hi hj]
    by_cases e : L i j = true
    · rw [if_pos e]
      cases hf : f i j with
      | none => rfl
      | some v => rw [hL i j v hf] at e; cases e
    · rw [if_neg e]
  have hst : Hid (sumP n (left f (fun _ _ => true)) = 0) := (sumP_zero (fun i j _ _ => by unfold left; simp)).2 fun i j _ _ => by unfold left; simp
  have hbd : Hid (∀ L, 0 ≤ sumP n (left f L) ∧ sumP n (left f L) ≤ 40000) := fun L => ⟨sumP_nonneg fun i j hi hj => by
    unfold left; have := (hge.out i j hi hj).1; split <;> omega, sumP_le hn fun i j hi hj => by
    unfold left; have := (hge.out i j hi hj).2; split <;> omega⟩
  have hstep : Hid (∀ L L2 i j v, (∀ x y, L2 x y = (L x y && !(decide (x = i ∧ y = j)))) → f i j = some v → L i j = true → sumP n (left f L2) = sumP n (left f L) + v) := fun L L2 i j v h2 hf hL => by
    obtain ⟨hi, hj⟩ := f3 i j v hf
    rw [sumP_at hi hj (f := left f L) (g := left f L2) (fun x y hxy => by
      unfold left
      rw [h2]
      simp only [hxy, decide_false, Bool.not_false, Bool.and_true])]
    have e1 : left f L i j = 0 := by unfold left; rw [if_pos hL]
    have e2 : left f L2 i j = v := by
      unfold left
      rw [h2]
      simp [hf]
    rw [e1, e2]; omega
  have hvb : Hid (∀ i j v, f i j = some v → 0 ≤ v ∧ v ≤ 900) := fun i j v hf => by
    obtain ⟨hi, hj⟩ := f3 i j v hf
    have := hge.out i j hi hj
    rw [hf] at this
    exact this
  clear hS f2 f3 htr hge
  go_enter Try.func15, Try.ntmps15
  go_wp2_with (first
    | (at_range; refine wpList_rangeC rfl _ rfl M c f rfl hM ?_; intro w2 hR2 hG2 hz2))
  go_frame
  have hB2 : Below w.heap.size w w2 := (Below.refl w.heap.size w).grown hG2 (Nat.le_refl _) (by simp)
  have hrel2 : WyRel w M w.heap.size c n f (.int .i64 0) w2 := ⟨_, hR2, by rw [hst.out], Nat.le_refl _, hB2⟩
  clear hR2 hG2 hz2 hM hB2 hst
  go_loopw [3, 5] (fun v _ wr => WyRel w M w.heap.size c n f v wr) (fun _ _ wr => wr.rangeLeft M w.heap.size)
  case atStart => exact hrel2
  case round =>
    clear hrel2
    obtain ⟨L, hR, rfl, hrl, hB⟩ := hrel
    go_wp2_with (first
      | (at_next; refine wpList_nextC rfl _ rfl M w.heap.size c f L rfl hR ?_ ?_))
    · intro hno
      have hfin := Lib.hid (hend.out L hno)
      clear hno
      go_wp2_with fail
      go_ret
      exact ⟨by rw [hfin.out]; rfl, hB⟩
    · intro i j v w3 hf hL hR3 hlt3 hG3 hz3 hen
      have hB3 := Lib.hid (hB.grown hG3 hB.size (by simp))
      generalize hL2 : (fun x y => L x y && (!decide (x = i) || !decide (y = j))) = L2 at hR3
      have h2 : ∀ x y, L2 x y = (L x y && !(decide (x = i ∧ y = j))) := fun x y => by rw [← hL2, Bool.decide_and, Bool.not_and]
      have hnx := Lib.hid (hstep.out L L2 i j v h2 hf hL)
      have hv := hvb.out i j v hf
      have hb := hbd.out L
      have hF : Hid (WyRel w M w.heap.size c n f (.int .i64 (sumP n (left f L) + v)) w3) := ⟨_, hR3, by rw [hnx.out], hrl, hB3.out⟩
      clear hf hL hR hG3 hR3 hB hnx h2 hL2
      unfold chv at hen ⊢
      generalize sumP n (left f L) = u at *
      go_wp2_with fail
      go_roundw
      case rel => exact hF.out
      case measure => exact hlt3

#print axioms works_any
#print axioms way_any
end Go.Proofs.Ytichcahlokjblaa
