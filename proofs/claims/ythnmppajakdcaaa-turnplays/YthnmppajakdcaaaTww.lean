/-
  The contracts of (*system).in, want and way of package turn.
-/
import Derived.Test.YthnmppajakdcaaaTsy
import Derived.Test.YthnmppajakdcaaaWrd
import Derived.BigQuiet
namespace Go.Proofs.Ythnmppajakdcaaa
open Go.RowKit Go.Maps
set_option linter.unusedVariables false

def InRel (w wr : World) : Prop := Below w.heap.size w wr
set_option maxHeartbeats 1600000 in
theorem in_any (w : World) (B s P M n c : Nat) (D : Nat → Nat) (S : TS) (hS : SysT w B s P M n c D S) (hn : n ≤ 6) :
    Calls Try.prog 16 #[.pointer (some ⟨s, 0, none⟩)] w fun e w' => e = .returned (.int .u32 (wordB n S.ins : Int)) ∧ Below w.heap.size w w' := by
  obtain ⟨f, hA⟩ := hS
  obtain ⟨s0, s1⟩ := hA.cells
  have hSH := Lib.hid hA
  clear hA s1
  go_enter Try.func16, Try.ntmps16
  go_wp2_with fail
  go_loopw [11, 3] (fun t v wr => ∃ k : Nat, k ≤ n ∧ t = .int .i64 k ∧ v = .int .u32 (wordB k S.ins : Int) ∧ InRel w wr) (fun t _ _ => n - (intOf t).toNat)
  case atStart => exact ⟨0, Nat.zero_le _, rfl, rfl, Below.refl _ _⟩
  case round =>
    obtain ⟨k, hk, rfl, rfl, hB⟩ := hrel
    unfold InRel at hB
    by_cases hlt : k < n
    · have hkI : (k : Int) < (n : Int) := by omega
      obtain ⟨p0, p1, p2, p3, p4, p5⟩ := (hSH.out.below hB).prc hlt
      have hk32 : k < 32 := by omega
      have hkI2 : (k : Int) < 32 := by omega
      have hW := wordB_small (k := k) (by omega) S.ins
      have hz := Lib.hid (wordB_skip k S.ins)
      have ho : Hid (S.ins k = true → wordB (k + 1) S.ins = wordB k S.ins ||| 2 ^ k) := fun h => by rw [wordB, if_pos h]
      have hBa := Lib.hid (hB.alloc hB.size (.cells #[.int .i64 (S.clk k), .bool (S.req k), .bool (S.ins k), .int .i64 (S.num k), .int .i64 (S.mis k), .slice (some ⟨D k, 0, none⟩) n n] 63))
      clear hB
      generalize S.clk k = x0 at *
      generalize S.req k = x1 at *
      generalize S.num k = x3 at *
      generalize S.mis k = x4 at *
      generalize D k = x5 at *
      cases hb : S.ins k with
      | true =>
        rw [hb] at p2 hBa ho
        have hnx := Lib.hid (ho.out rfl)
        clear hz ho
        generalize wordB k S.ins = V at *
        have s1 := set_val V k (by omega) hk32
        go_wp2_with fail
        go_roundw
        case rel => exact ⟨k + 1, by omega, by go_num, by rw [hnx.out], hBa.out⟩
        case measure => simp [intOf]; omega
      | false =>
        rw [hb] at p2 hBa
        have hnx := Lib.hid (hz.out hb)
        clear hz ho
        generalize wordB k S.ins = V at *
        go_wp2_with fail
        go_roundw
        case rel => exact ⟨k + 1, by omega, by go_num, by rw [hnx.out], hBa.out⟩
        case measure => simp [intOf]; omega
    · have hkn : k = n := by omega
      subst hkn
      go_wp2_with fail
      go_ret
      exact ⟨rfl, hB⟩
set_option maxHeartbeats 1600000 in
theorem want_any (w : World) (B s P M n c : Nat) (D : Nat → Nat) (S : TS) (hS : SysT w B s P M n c D S) (hn : n ≤ 6) :
    Calls Try.prog 17 #[.pointer (some ⟨s, 0, none⟩)] w fun e w' => e = .returned (.int .u32 (wordB n S.req : Int)) ∧ Below w.heap.size w w' := by
  obtain ⟨f, hA⟩ := hS
  obtain ⟨s0, s1⟩ := hA.cells
  have hSH := Lib.hid hA
  clear hA s1
  go_enter Try.func17, Try.ntmps17
  go_wp2_with fail
  go_loopw [11, 3] (fun t v wr => ∃ k : Nat, k ≤ n ∧ t = .int .i64 k ∧ v = .int .u32 (wordB k S.req : Int) ∧ InRel w wr) (fun t _ _ => n - (intOf t).toNat)
  case atStart => exact ⟨0, Nat.zero_le _, rfl, rfl, Below.refl _ _⟩
  case round =>
    obtain ⟨k, hk, rfl, rfl, hB⟩ := hrel
    unfold InRel at hB
    by_cases hlt : k < n
    · have hkI : (k : Int) < (n : Int) := by omega
      obtain ⟨p0, p1, p2, p3, p4, p5⟩ := (hSH.out.below hB).prc hlt
      have hk32 : k < 32 := by omega
      have hkI2 : (k : Int) < 32 := by omega
      have hW := wordB_small (k := k) (by omega) S.req
      have hz := Lib.hid (wordB_skip k S.req)
      have ho : Hid (S.req k = true → wordB (k + 1) S.req = wordB k S.req ||| 2 ^ k) := fun h => by rw [wordB, if_pos h]
      have hBa := Lib.hid (hB.alloc hB.size (.cells #[.int .i64 (S.clk k), .bool (S.req k), .bool (S.ins k), .int .i64 (S.num k), .int .i64 (S.mis k), .slice (some ⟨D k, 0, none⟩) n n] 63))
      clear hB
      generalize S.clk k = x0 at *
      generalize S.ins k = x1 at *
      generalize S.num k = x3 at *
      generalize S.mis k = x4 at *
      generalize D k = x5 at *
      cases hb : S.req k with
      | true =>
        rw [hb] at p1 hBa ho
        have hnx := Lib.hid (ho.out rfl)
        clear hz ho
        generalize wordB k S.req = V at *
        have s1 := set_val V k (by omega) hk32
        go_wp2_with fail
        go_roundw
        case rel => exact ⟨k + 1, by omega, by go_num, by rw [hnx.out], hBa.out⟩
        case measure => simp [intOf]; omega
      | false =>
        rw [hb] at p1 hBa
        have hnx := Lib.hid (hz.out hb)
        clear hz ho
        generalize wordB k S.req = V at *
        go_wp2_with fail
        go_roundw
        case rel => exact ⟨k + 1, by omega, by go_num, by rw [hnx.out], hBa.out⟩
        case measure => simp [intOf]; omega
    · have hkn : k = n := by omega
      subst hkn
      go_wp2_with fail
      go_ret
      exact ⟨rfl, hB⟩

/-- How many are on all ways. -/
def wayT (n : Nat) (S : TS) : Int := sum2 n fun i j => ((S.q i j).length : Int)
def leftT (S : TS) (L : Nat → Nat → Bool) : Nat → Nat → Int := fun i j => if L i j = true then 0 else ((S.q i j).length : Int)
def WyT (w : World) (M r c n : Nat) (f : Nat → Nat → Option Value) (S : TS) (v : Value) (wr : World) : Prop := ∃ L, Rng2 wr M r c f L ∧ v = .int .i64 (sum2 n (leftT S L)) ∧ w.heap.size ≤ r ∧ Below w.heap.size w wr
theorem sum2_small {n : Nat} {f : Nat → Nat → Int} (hn : n ≤ 6) (h : ∀ i j, f i j ≤ 900) : sum2 n f ≤ 40000 := by
  have hle : ∀ (m : Nat) (g : Nat → Int) (c : Int), (∀ i, g i ≤ c) → sumN m g ≤ m * c := fun m g c hg => by
    induction m with
    | zero => simp [sumN]
    | succ m ih =>
      rw [sumN]
      have h2 := hg m
      have : ((m + 1 : Nat) : Int) * c = m * c + c := by rw [Int.natCast_add, Int.add_mul]; simp
      omega
  have h1 : sum2 n f ≤ n * 5400 := hle n _ 5400 fun i => by
    have := hle n (f i) 900 (h i)
    omega
  omega

set_option maxHeartbeats 1600000 in
theorem way_any (w : World) (B s P M n c : Nat) (D : Nat → Nat) (S : TS) (hS : SysT w B s P M n c D S) (hn : n ≤ 6) (hl : ∀ a b, (S.q a b).length ≤ 900) :
    Calls Try.prog 18 #[.pointer (some ⟨s, 0, none⟩)] w fun e w' => e = .returned (.int .i64 (wayT n S)) ∧ Below w.heap.size w w' := by
  obtain ⟨f, hA⟩ := hS
  obtain ⟨s0, s1⟩ := hA.cells
  have hM := hA.map
  have f3 := hA.lowF
  have hsh : Hid (∀ i j v, f i j = some v → ∃ A cap, v = .slice A (S.q i j).length cap) := fun i j v hf => by
    obtain ⟨hi, hj⟩ := f3 i j v hf
    obtain ⟨A, cap, h1, _⟩ := (hA.que i j hi hj).shape
    refine ⟨A, cap, ?_⟩
    unfold vq at h1
    rw [hf] at h1
    exact h1
  have hnil : Hid (∀ i j, i < n → j < n → f i j = none → S.q i j = []) := fun i j hi hj hf => by
    have h1 := hA.que i j hi hj
    unfold vq at h1
    rw [hf] at h1
    rcases h1 with ⟨_, h1⟩ | ⟨g, off, cap, cur, h1, _⟩
    · exact h1
    · simp [snil] at h1
  have hend : Hid (∀ L, (∀ i j v, f i j = some v → L i j = false) → sum2 n (leftT S L) = wayT n S) := fun L hL => sum2_congr fun i j hi hj => by
    unfold leftT
    by_cases e : L i j = true
    · rw [if_pos e]
      cases hf : f i j with
      | none => rw [hnil.out i j hi hj hf]; rfl
      | some v => rw [hL i j v hf] at e; cases e
    · rw [if_neg e]
  have hst : Hid (sum2 n (leftT S (fun _ _ => true)) = 0) := by
    unfold Hid
    rw [sum2_congr (f := fun _ _ => 0) (fun i j _ _ => by unfold leftT; simp)]
    unfold sum2
    rw [sumN_congr (f := fun _ => 0) (fun i _ => by rw [sumN_const]; simp), sumN_const]
    simp
  have hbd : Hid (∀ L, 0 ≤ sum2 n (leftT S L) ∧ sum2 n (leftT S L) ≤ 40000) := fun L => ⟨sum2_nonneg fun i j => by
    unfold leftT; split <;> omega, sum2_small hn fun i j => by
    unfold leftT; have := hl i j; split <;> omega⟩
  have hstep : Hid (∀ L L2 i j v, (∀ x y, L2 x y = (L x y && !(decide (x = i ∧ y = j)))) → f i j = some v → L i j = true → sum2 n (leftT S L2) = sum2 n (leftT S L) + ((S.q i j).length : Int)) := fun L L2 i j v h2 hf hL => by
    obtain ⟨hi, hj⟩ := f3 i j v hf
    rw [sum2_at hi hj (f := leftT S L) (g := leftT S L2) (fun x y hxy => by
      unfold leftT
      rw [h2]
      simp only [hxy, decide_false, Bool.not_false, Bool.and_true])]
    have e1 : leftT S L i j = 0 := by unfold leftT; rw [if_pos hL]
    have e2 : leftT S L2 i j = ((S.q i j).length : Int) := by
      unfold leftT
      rw [h2]
      simp
    rw [e1, e2]; omega
  have hvb : Hid (∀ i j, (S.q i j).length ≤ 900) := hl
  clear hA f3 hl hnil
  go_enter Try.func18, Try.ntmps18
  go_wp2_with (first
    | (at_range; refine wpList_range2 rfl _ rfl M c f rfl hM ?_; intro w2 hR2 hG2 hz2))
  go_frame
  have hB2 : Below w.heap.size w w2 := (Below.refl w.heap.size w).grown hG2 (Nat.le_refl _) (by simp)
  have hrel2 : WyT w M w.heap.size c n f S (.int .i64 0) w2 := ⟨_, hR2, by rw [hst.out], Nat.le_refl _, hB2⟩
  clear hR2 hG2 hz2 hM hB2 hst
  go_loopw [3, 5] (fun v _ wr => WyT w M w.heap.size c n f S v wr) (fun _ _ wr => wr.rangeLeft M w.heap.size)
  case atStart => exact hrel2
  case round =>
    clear hrel2
    obtain ⟨L, hR, rfl, hrl, hB⟩ := hrel
    go_wp2_with (first
      | (at_next; refine wpList_next2 rfl _ rfl M w.heap.size c f L rfl hR ?_ ?_))
    · intro hno
      have hfin := Lib.hid (hend.out L hno)
      clear hno
      go_wp2_with fail
      go_ret
      exact ⟨by rw [hfin.out]; rfl, hB⟩
    · intro i j v w3 hf hL hR3 hlt3 hG3 hz3 hen
      have hB3 := Lib.hid (hB.grown hG3 hB.size (by simp))
      generalize hL2 : (fun x y => L x y && (!decide (x = i) || !decide (y = j))) = L2 at hR3
      have h2 : ∀ x y, L2 x y = (L x y && !(decide (x = i ∧ y = j))) := fun x y => by rw [← hL2, Bool.decide_and, Bool.not_and]
      have hnx := Lib.hid (hstep.out L L2 i j v h2 hf hL)
      obtain ⟨A, cap, rfl⟩ := hsh.out i j v hf
      have hv := hvb.out i j
      have hb := hbd.out L
      have hF : Hid (WyT w M w.heap.size c n f S (.int .i64 (sum2 n (leftT S L) + ((S.q i j).length : Int))) w3) := ⟨_, hR3, by rw [hnx.out], hrl, hB3.out⟩
      clear hf hL hR hG3 hR3 hB hnx h2 hL2
      unfold ch2 at hen ⊢
      generalize sum2 n (leftT S L) = u at *
      generalize (S.q i j).length = len at *
      go_wp2_with fail
      go_roundw
      case rel => exact hF.out
      case measure => exact hlt3

#print axioms in_any
#print axioms want_any
#print axioms way_any
end Go.Proofs.Ythnmppajakdcaaa
