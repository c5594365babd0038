/-
  The contracts of (*system).set and way of package token.
-/
import Derived.Test.YtejckoffllhjcaaKsy
import Derived.Test.YtejckoffllhjcaaWrd
import Derived.BigQuiet
namespace Go.Proofs.Ytejckoffllhjcaa
open Go.RowKit Go.Maps
set_option linter.unusedVariables false

set_option maxHeartbeats 1600000 in
theorem setIn_any (w : World) (B s P M n c : Nat) (S : KS) (hS : SysK w B s P M n c S) (hn : n ≤ 6) (g : Nat → Bool) (hF : ∀ i, i < n → Calls Try.prog 19 #[.pointer (some ⟨s, 0, none⟩), .int .i64 (i : Int)] w fun e w' => e = .returned (.bool (g i)) ∧ w = w') :
    Calls Try.prog 18 #[.pointer (some ⟨s, 0, none⟩), .func (.func 19) #[.pointer (some ⟨s, 0, none⟩)] #[]] w fun e w' => e = .returned (.int .u32 (wordB n g : Int)) ∧ w = w' := by
  obtain ⟨D, f, hA⟩ := hS
  obtain ⟨s0, s1⟩ := hA.cells
  have hFH := Lib.hid hF
  clear hA s1 hF
  go_enter Try.func18, Try.ntmps18
  go_wp2_with fail
  go_loop [12, 5] (fun t v => ∃ k : Nat, k ≤ n ∧ t = .int .i64 k ∧ v = .int .u32 (wordB k g : Int)) (fun t _ => n - (intOf t).toNat)
  case atStart => exact ⟨0, Nat.zero_le _, rfl, rfl⟩
  case round =>
    obtain ⟨k, hk, rfl, rfl⟩ := hrel
    by_cases hlt : k < n
    · have hkI : (k : Int) < (n : Int) := by omega
      have hk32 : k < 32 := by omega
      have hkI2 : (k : Int) < 32 := by omega
      have hW := wordB_small (k := k) (by omega) g
      have hz := Lib.hid (wordB_skip k g)
      have ho : Hid (g k = true → wordB (k + 1) g = wordB k g ||| 2 ^ k) := fun h => by rw [wordB, if_pos h]
      have hcall := Lib.hid (hFH.out k hlt)
      cases hb : g k with
      | true =>
        rw [hb] at hcall ho
        have hnx := Lib.hid (ho.out rfl)
        clear hz ho hb
        generalize wordB k g = V at *
        have s1 := set_val V k (by omega) hk32
        go_wp2_with fail
        refine hcall.out.mono ?_
        rintro e w3 ⟨rfl, rfl⟩
        go_wp2_with fail
        go_round
        case rel => exact ⟨k + 1, by omega, by go_num, by rw [hnx.out]⟩
        case measure => simp [intOf]; omega
      | false =>
        rw [hb] at hcall
        have hnx := Lib.hid (hz.out hb)
        clear hz ho hb
        generalize wordB k g = V at *
        go_wp2_with fail
        refine hcall.out.mono ?_
        rintro e w3 ⟨rfl, rfl⟩
        go_wp2_with fail
        go_round
        case rel => exact ⟨k + 1, by omega, by go_num, by rw [hnx.out]⟩
        case measure => simp [intOf]; omega
    · have hkn : k = n := by omega
      subst hkn
      go_wp2_with fail
      go_ret
      exact ⟨rfl, rfl⟩

set_option maxHeartbeats 1600000 in
theorem setWant_any (w : World) (B s P M n c : Nat) (S : KS) (hS : SysK w B s P M n c S) (hn : n ≤ 6) (g : Nat → Bool) (hF : ∀ i, i < n → Calls Try.prog 20 #[.pointer (some ⟨s, 0, none⟩), .int .i64 (i : Int)] w fun e w' => e = .returned (.bool (g i)) ∧ w = w') :
    Calls Try.prog 18 #[.pointer (some ⟨s, 0, none⟩), .func (.func 20) #[.pointer (some ⟨s, 0, none⟩)] #[]] w fun e w' => e = .returned (.int .u32 (wordB n g : Int)) ∧ w = w' := by
  obtain ⟨D, f, hA⟩ := hS
  obtain ⟨s0, s1⟩ := hA.cells
  have hFH := Lib.hid hF
  clear hA s1 hF
  go_enter Try.func18, Try.ntmps18
  go_wp2_with fail
  go_loop [12, 5] (fun t v => ∃ k : Nat, k ≤ n ∧ t = .int .i64 k ∧ v = .int .u32 (wordB k g : Int)) (fun t _ => n - (intOf t).toNat)
  case atStart => exact ⟨0, Nat.zero_le _, rfl, rfl⟩
  case round =>
    obtain ⟨k, hk, rfl, rfl⟩ := hrel
    by_cases hlt : k < n
    · have hkI : (k : Int) < (n : Int) := by omega
      have hk32 : k < 32 := by omega
      have hkI2 : (k : Int) < 32 := by omega
      have hW := wordB_small (k := k) (by omega) g
      have hz := Lib.hid (wordB_skip k g)
      have ho : Hid (g k = true → wordB (k + 1) g = wordB k g ||| 2 ^ k) := fun h => by rw [wordB, if_pos h]
      have hcall := Lib.hid (hFH.out k hlt)
      cases hb : g k with
      | true =>
        rw [hb] at hcall ho
        have hnx := Lib.hid (ho.out rfl)
        clear hz ho hb
        generalize wordB k g = V at *
        have s1 := set_val V k (by omega) hk32
        go_wp2_with fail
        refine hcall.out.mono ?_
        rintro e w3 ⟨rfl, rfl⟩
        go_wp2_with fail
        go_round
        case rel => exact ⟨k + 1, by omega, by go_num, by rw [hnx.out]⟩
        case measure => simp [intOf]; omega
      | false =>
        rw [hb] at hcall
        have hnx := Lib.hid (hz.out hb)
        clear hz ho hb
        generalize wordB k g = V at *
        go_wp2_with fail
        refine hcall.out.mono ?_
        rintro e w3 ⟨rfl, rfl⟩
        go_wp2_with fail
        go_round
        case rel => exact ⟨k + 1, by omega, by go_num, by rw [hnx.out]⟩
        case measure => simp [intOf]; omega
    · have hkn : k = n := by omega
      subst hkn
      go_wp2_with fail
      go_ret
      exact ⟨rfl, rfl⟩

/-- How many are on all ways. -/
def wayK (n : Nat) (S : KS) : Int := sum2 n fun i j => ((S.q i j).length : Int)
def leftK (S : KS) (L : Nat → Nat → Bool) : Nat → Nat → Int := fun i j => if L i j = true then 0 else ((S.q i j).length : Int)
def WyK (w : World) (M r c n : Nat) (f : Nat → Nat → Option Value) (S : KS) (v : Value) (wr : World) : Prop := ∃ L, RngM wr M r c f L ∧ v = .int .i64 (sum2 n (leftK S L)) ∧ w.heap.size ≤ r ∧ Below w.heap.size w wr
theorem sum2_small {n : Nat} {f : Nat → Nat → Int} (hn : n ≤ 6) (h : ∀ i j, f i j ≤ 900) : sum2 n f ≤ 40000 := by
  have hle : ∀ (m : Nat) (g : Nat → Int) (c : Int), (∀ i, g i ≤ c) → sumN m g ≤ m * c := fun m g c hg => by
    induction m with
    | zero => simp [sumN]
    | succ m ih =>
      rw [sumN]
      have h2 := hg m
      have : ((m + 1 : Nat) : Int) * c = m * c + c := by rw [Int.natCast_add, Int.add_mul]; simp
      omega
  have h1 : sum2 n f ≤ n * 5400 := hle n _ 5400 fun i => by
    have := hle n (f i) 900 (h i)
    omega
  omega

set_option maxHeartbeats 1600000 in
theorem way_any (w : World) (B s P M n c : Nat) (S : KS) (hS : SysK w B s P M n c S) (hn : n ≤ 6) (hl : ∀ a b, (S.q a b).length ≤ 900) :
    Calls Try.prog 21 #[.pointer (some ⟨s, 0, none⟩)] w fun e w' => e = .returned (.int .i64 (wayK n S)) ∧ Below w.heap.size w w' := by
  obtain ⟨D, f, hA⟩ := hS
  obtain ⟨s0, s1⟩ := hA.cells
  have hM := hA.map
  have f3 := hA.lowF
  have hsh : Hid (∀ i j v, f i j = some v → ∃ A cap, v = .slice A (S.q i j).length cap) := fun i j v hf => by
    obtain ⟨hi, hj⟩ := f3 i j v hf
    obtain ⟨A, cap, h1, _⟩ := (hA.que i j hi hj).shape
    refine ⟨A, cap, ?_⟩
    unfold vqM at h1
    rw [hf] at h1
    exact h1
  have hnil : Hid (∀ i j, i < n → j < n → f i j = none → S.q i j = []) := fun i j hi hj hf => by
    have h1 := hA.que i j hi hj
    unfold vqM at h1
    rw [hf] at h1
    rcases h1 with ⟨_, h1⟩ | ⟨g, off, cap, cur, h1, _⟩
    · exact h1
    · simp [snil] at h1
  have hend : Hid (∀ L, (∀ i j v, f i j = some v → L i j = false) → sum2 n (leftK S L) = wayK n S) := fun L hL => sum2_congr fun i j hi hj => by
    unfold leftK
    by_cases e : L i j = true
    · rw [if_pos e]
      cases hf : f i j with
      | none => rw [hnil.out i j hi hj hf]; rfl
      | some v => rw [hL i j v hf] at e; cases e
    · rw [if_neg e]
  have hst : Hid (sum2 n (leftK S (fun _ _ => true)) = 0) := by
    unfold Hid
    rw [sum2_congr (f := fun _ _ => 0) (fun i j _ _ => by unfold leftK; simp)]
    unfold sum2
    rw [sumN_congr (f := fun _ => 0) (fun i _ => by rw [sumN_const]; simp), sumN_const]
    simp
  have hbd : Hid (∀ L, 0 ≤ sum2 n (leftK S L) ∧ sum2 n (leftK S L) ≤ 40000) := fun L => ⟨sum2_nonneg fun i j => by
    unfold leftK; split <;> omega, sum2_small hn fun i j => by
    unfold leftK; have := hl i j; split <;> omega⟩
  have hstep : Hid (∀ L L2 i j v, (∀ x y, L2 x y = (L x y && !(decide (x = i ∧ y = j)))) → f i j = some v → L i j = true → sum2 n (leftK S L2) = sum2 n (leftK S L) + ((S.q i j).length : Int)) := fun L L2 i j v h2 hf hL => by
    obtain ⟨hi, hj⟩ := f3 i j v hf
    rw [sum2_at hi hj (f := leftK S L) (g := leftK S L2) (fun x y hxy => by
      unfold leftK
      rw [h2]
      simp only [hxy, decide_false, Bool.not_false, Bool.and_true])]
    have e1 : leftK S L i j = 0 := by unfold leftK; rw [if_pos hL]
    have e2 : leftK S L2 i j = ((S.q i j).length : Int) := by
      unfold leftK
      rw [h2]
      simp
    rw [e1, e2]; omega
  have hvb : Hid (∀ i j, (S.q i j).length ≤ 900) := hl
  clear hA f3 hl hnil
  go_enter Try.func21, Try.ntmps21
  go_wp2_with (first
    | (at_range; refine wpList_rangeM rfl _ rfl M c f rfl hM ?_; intro w2 hR2 hG2 hz2))
  go_frame
  have hB2 : Below w.heap.size w w2 := (Below.refl w.heap.size w).grown hG2 (Nat.le_refl _) (by simp)
  have hrel2 : WyK w M w.heap.size c n f S (.int .i64 0) w2 := ⟨_, hR2, by rw [hst.out], Nat.le_refl _, hB2⟩
  clear hR2 hG2 hz2 hM hB2 hst
  go_loopw [3, 5] (fun v _ wr => WyK w M w.heap.size c n f S v wr) (fun _ _ wr => wr.rangeLeft M w.heap.size)
  case atStart => exact hrel2
  case round =>
    clear hrel2
    obtain ⟨L, hR, rfl, hrl, hB⟩ := hrel
    go_wp2_with (first
      | (at_next; refine wpList_nextM rfl _ rfl M w.heap.size c f L rfl hR ?_ ?_))
    · intro hno
      have hfin := Lib.hid (hend.out L hno)
      clear hno
      go_wp2_with fail
      go_ret
      exact ⟨by rw [hfin.out]; rfl, hB⟩
    · intro i j v w3 hf hL hR3 hlt3 hG3 hz3 hen
      have hB3 := Lib.hid (hB.grown hG3 hB.size (by simp))
      generalize hL2 : (fun x y => L x y && (!decide (x = i) || !decide (y = j))) = L2 at hR3
      have h2 : ∀ x y, L2 x y = (L x y && !(decide (x = i ∧ y = j))) := fun x y => by rw [← hL2, Bool.decide_and, Bool.not_and]
      have hnx := Lib.hid (hstep.out L L2 i j v h2 hf hL)
      obtain ⟨A, cap, rfl⟩ := hsh.out i j v hf
      have hv := hvb.out i j
      have hb := hbd.out L
      have hF : Hid (WyK w M w.heap.size c n f S (.int .i64 (sum2 n (leftK S L) + ((S.q i j).length : Int))) w3) := ⟨_, hR3, by rw [hnx.out], hrl, hB3.out⟩
      clear hf hL hR hG3 hR3 hB hnx h2 hL2
      unfold chM at hen ⊢
      generalize sum2 n (leftK S L) = u at *
      generalize (S.q i j).length = len at *
      go_wp2_with fail
      go_roundw
      case rel => exact hF.out
      case measure => exact hlt3

#print axioms setWant_any
#print axioms way_any
end Go.Proofs.Ytejckoffllhjcaa
