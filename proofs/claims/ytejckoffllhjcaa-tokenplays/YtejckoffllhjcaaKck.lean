/-
  The contracts of token.climb, isTree, check, and of beaconryref.TreeCheck, beaconrykeep.treed.
-/
import Derived.Test.YtejckoffllhjcaaKix
import Derived.Test.YtejckoffllhjcaaPlq
namespace Go.Proofs.Ytejckoffllhjcaa
open Go.RowKit Go.Maps
set_option linter.unusedVariables false

/-! Parents. -/
def upN (l : List Int) (i : Nat) : Nat := (l.getD i 0).toNat
def itU (u : Nat → Nat) : Nat → Nat → Nat
  | 0, p => p
  | k + 1, p => u (itU u k p)
def rngB (l : List Int) : Bool := l.all fun x => !outK l.length x
def treeB (n : Nat) (u : Nat → Nat) : Bool := (List.range n).all (fun p => decide (u (itU u n p) = itU u n p)) && decide (sumN n (holdN (KS.begin u)) = 1)
def treeCode (l : List Int) : Int := if rngB l = true then (if treeB l.length (upN l) = true then 0 else 3) else 2
theorem rngB_iff {l : List Int} : rngB l = true ↔ ∀ x ∈ l, 0 ≤ x ∧ x < l.length := by
  unfold rngB
  rw [List.all_eq_true]
  refine ⟨fun h x hx => ?_, fun h x hx => ?_⟩
  · have h1 := h x hx
    rw [Bool.not_eq_true', ← Bool.not_eq_true, outK_iff] at h1
    by_cases e : 0 ≤ x ∧ x < l.length
    · exact e
    · exact absurd e h1
  · rw [Bool.not_eq_true', ← Bool.not_eq_true, outK_iff]
    exact fun h2 => h2 (h x hx)
theorem treeB_iff {n : Nat} {u : Nat → Nat} : treeB n u = true ↔ (∀ p, p < n → u (itU u n p) = itU u n p) ∧ sumN n (holdN (KS.begin u)) = 1 := by
  unfold treeB
  rw [Bool.and_eq_true, List.all_eq_true, decide_eq_true_iff]
  refine ⟨fun h => ⟨fun p hp => ?_, h.2⟩, fun h => ⟨fun p hp => ?_, h.2⟩⟩
  · have := h.1 p (List.mem_range.2 hp)
    exact of_decide_eq_true this
  · exact decide_eq_true (h.1 p (List.mem_range.1 hp))
theorem upN_get {l : List Int} {i : Nat} (h : i < l.length) : upN l i = (l[i]).toNat := by unfold upN; rw [List.getD_eq_getElem?_getD, List.getElem?_eq_getElem h]; rfl
section
variable {l : List Int}
theorem upN_lt (h : rngB l = true) {i : Nat} (hi : i < l.length) : upN l i < l.length := by
  rw [upN_get hi]
  have := rngB_iff.1 h _ (List.getElem_mem hi)
  omega
theorem upN_cast (h : rngB l = true) {i : Nat} (hi : i < l.length) : l[i] = (upN l i : Int) := by
  rw [upN_get hi]
  have := rngB_iff.1 h _ (List.getElem_mem hi)
  omega
theorem itU_lt (h : rngB l = true) {p : Nat} (hp : p < l.length) (k : Nat) : itU (upN l) k p < l.length := by
  induction k with
  | zero => exact hp
  | succ k ih => exact upN_lt h ih
end

theorem nums_upK {w : World} {A : Option Addr} {l : List Int} (hE : Nums w w.heap.size A l) (hr : rngB l = true) (h0 : 0 < l.length) : ∃ b off, A = some ⟨b, off, none⟩ ∧ ∀ i, i < l.length → w.cell? ⟨b, off + i, none⟩ = some (.int .i64 (upN l i : Int)) := by
  obtain ⟨b, off, rfl, _, hc⟩ := hE h0
  exact ⟨b, off, rfl, fun i hi => by rw [hc i hi, upN_cast hr hi]⟩

set_option maxHeartbeats 800000 in
theorem climb_any (w : World) (b off cap : Nat) (u : Nat → Nat) (n : Nat) (hc : ∀ i, i < n → w.cell? ⟨b, off + i, none⟩ = some (.int .i64 (u i : Int))) (hu : ∀ k p, p < n → itU u k p < n) (hn : n ≤ 6) (p : Nat) (hp : p < n) :
    Calls Try.prog 40 #[.slice (some ⟨b, off, none⟩) n cap, .int .i64 (p : Int)] w fun e w' => e = .returned (.int .i64 (itU u n p : Int)) ∧ w = w' := by
  have hcH := Lib.hid hc
  have huH := Lib.hid hu
  clear hc hu
  go_enter Try.func40, Try.ntmps40
  go_wp2_with fail
  go_loop [7, 1] (fun t v => ∃ k : Nat, k ≤ n ∧ t = .int .i64 k ∧ v = .int .i64 (itU u k p : Int)) (fun t _ => n - (intOf t).toNat)
  case atStart => exact ⟨0, Nat.zero_le _, rfl, rfl⟩
  case round =>
    obtain ⟨k, hk, rfl, rfl⟩ := hrel
    by_cases hlt : k < n
    · have hkI : (k : Int) < (n : Int) := by omega
      have h1 := huH.out k p hp
      have c0 := hcH.out _ h1
      have hnx : Hid (itU u (k + 1) p = u (itU u k p)) := rfl
      generalize itU u k p = q at *
      generalize u q = q' at *
      have hqI : (q : Int) < (n : Int) := by omega
      go_wp2_with fail
      go_round
      case rel => exact ⟨k + 1, by omega, by go_num, by rw [hnx.out]⟩
      case measure => simp [intOf]; omega
    · have hkn : k = n := by omega
      subst hkn
      go_wp2_with fail
      go_ret
      exact ⟨rfl, rfl⟩

set_option maxHeartbeats 1600000 in
theorem isTree_any (w : World) (A : Option Addr) (cap : Nat) (l : List Int) (hE : Nums w w.heap.size A l) (hr : rngB l = true) (hn : l.length ≤ 6) (h0 : 0 < l.length) :
    Calls Try.prog 33 #[.slice A l.length cap] w fun e w' => e = .returned (.bool (treeB l.length (upN l))) ∧ w = w' := by
  obtain ⟨b, off, rfl, hc⟩ := nums_upK hE hr h0
  have hu : ∀ k p, p < l.length → itU (upN l) k p < l.length := fun k p hp => itU_lt hr hp k
  have htH : Hid (∀ C : Bool, (C = true ↔ (∀ p, p < l.length → upN l (itU (upN l) l.length p) = itU (upN l) l.length p) ∧ sumN l.length (holdN (KS.begin (upN l))) = 1) → treeB l.length (upN l) = C) := fun C hC => by
    rw [Bool.eq_iff_iff, treeB_iff, hC]
  have hcH := Lib.hid hc
  have huH := Lib.hid hu
  have hclimb := Lib.hid (fun p hp => climb_any w b off cap (upN l) l.length hc hu hn p hp)
  have hbd : Hid (∀ k, 0 ≤ sumN k (holdN (KS.begin (upN l))) ∧ sumN k (holdN (KS.begin (upN l))) ≤ k) := fun k => by
    induction k with
    | zero => exact ⟨Int.le_refl _, Int.le_refl _⟩
    | succ k ih =>
      rw [sumN]
      have h1 := holdN_ge (KS.begin (upN l)) k
      have h2 : holdN (KS.begin (upN l)) k ≤ 1 := by unfold holdN; split <;> decide
      omega
  have hsy : Hid (∀ k, upN l k = k → sumN (k + 1) (holdN (KS.begin (upN l))) = sumN k (holdN (KS.begin (upN l))) + 1) := fun k h => by
    rw [sumN]
    have : holdN (KS.begin (upN l)) k = 1 := if_pos h
    rw [this]
  have hsn : Hid (∀ k, upN l k ≠ k → sumN (k + 1) (holdN (KS.begin (upN l))) = sumN k (holdN (KS.begin (upN l)))) := fun k h => by
    rw [sumN]
    have : holdN (KS.begin (upN l)) k = 0 := if_neg h
    rw [this]; omega
  clear hc hu hE
  generalize l.length = n at *
  generalize treeB n (upN l) = T at *
  generalize hsg : (fun k => sumN k (holdN (KS.begin (upN l)))) = sg at *
  have hsg' : ∀ k, sumN k (holdN (KS.begin (upN l))) = sg k := fun k => by rw [← hsg]
  simp only [hsg'] at hbd hsy hsn htH
  have h00 : Hid (sg 0 = 0) := by unfold Hid; rw [← hsg']; rfl
  clear hsg hsg' hr
  generalize upN l = u at *
  go_enter Try.func33, Try.ntmps33
  go_wp2_with fail
  go_loop [9, 3] (fun t v => ∃ k : Nat, k ≤ n ∧ t = .int .i64 k ∧ v = .int .i64 (sg k) ∧ Hid (∀ p, p < k → u (itU u n p) = itU u n p)) (fun t _ => n - (intOf t).toNat)
  case atStart => exact ⟨0, Nat.zero_le _, rfl, by rw [h00.out], fun p hp => absurd hp (Nat.not_lt_zero _)⟩
  case round =>
    clear h00
    obtain ⟨k, hk, rfl, rfl, hdone⟩ := hrel
    obtain ⟨g0, g1⟩ := hbd.out k
    by_cases hlt : k < n
    · have hkI : (k : Int) < (n : Int) := by omega
      have c0 := hcH.out k hlt
      have hcl := Lib.hid (hclimb.out k hlt)
      have hq := huH.out n k hlt
      have c1 := hcH.out _ hq
      have hnx : Hid (u (itU u n k) = itU u n k → ∀ p, p < k + 1 → u (itU u n p) = itU u n p) := fun h p hp => by
        by_cases e : p = k
        · rw [e]; exact h
        · exact hdone.out p (by omega)
      have hbad : Hid (u (itU u n k) ≠ itU u n k → T = false) := fun h => htH.out false ⟨(nomatch ·), fun h2 => absurd (h2.1 k hlt) h⟩
      have hy := Lib.hid (hsy.out k)
      have hn' := Lib.hid (hsn.out k)
      obtain ⟨q, hqH⟩ : ∃ q, Hid (itU u n k = q) := ⟨_, rfl⟩
      rw [hqH.out] at hcl hq c1 hnx hbad
      have hqI : (q : Int) < (n : Int) := by omega
      generalize sg k = G at *
      generalize u q = q' at *
      generalize u k = z at *
      by_cases e1 : z = k
      · have hG := Lib.hid (hy.out e1)
        have e1b : ((z : Int) == (k : Int)) = true := by rw [beq_iff_eq]; omega
        by_cases e2 : q' = q
        · have hnx2 := Lib.hid (hnx.out e2)
          have e2b : ((q' : Int) != (q : Int)) = false := by rw [bne_eq_false_iff_eq]; omega
          clear hnx hbad hy hn' e1 e2
          go_wp2_with fail
          refine hcl.out.mono ?_
          rintro e w1 ⟨rfl, rfl⟩
          go_wp2_with fail
          go_round
          case rel => exact ⟨k + 1, by omega, by go_num, by rw [hG.out], hnx2⟩
          case measure => simp [intOf]; omega
        · have hT := Lib.hid (hbad.out e2)
          have e2b : ((q' : Int) != (q : Int)) = true := by rw [bne_iff_ne]; omega
          clear hnx hbad hy hn' e1 e2
          go_wp2_with fail
          refine hcl.out.mono ?_
          rintro e w1 ⟨rfl, rfl⟩
          go_wp2_with fail
          go_ret
          exact ⟨by rw [hT.out]; rfl, rfl⟩
      · have hG := Lib.hid (hn'.out e1)
        have e1b : ((z : Int) == (k : Int)) = false := by rw [beq_eq_false_iff_ne]; omega
        by_cases e2 : q' = q
        · have hnx2 := Lib.hid (hnx.out e2)
          have e2b : ((q' : Int) != (q : Int)) = false := by rw [bne_eq_false_iff_eq]; omega
          clear hnx hbad hy hn' e1 e2
          go_wp2_with fail
          refine hcl.out.mono ?_
          rintro e w1 ⟨rfl, rfl⟩
          go_wp2_with fail
          go_round
          case rel => exact ⟨k + 1, by omega, by go_num, by rw [hG.out], hnx2⟩
          case measure => simp [intOf]; omega
        · have hT := Lib.hid (hbad.out e2)
          have e2b : ((q' : Int) != (q : Int)) = true := by rw [bne_iff_ne]; omega
          clear hnx hbad hy hn' e1 e2
          go_wp2_with fail
          refine hcl.out.mono ?_
          rintro e w1 ⟨rfl, rfl⟩
          go_wp2_with fail
          go_ret
          exact ⟨by rw [hT.out]; rfl, rfl⟩
    · have hkn : k = n := by omega
      subst hkn
      have hT : Hid (T = (sg k == 1)) := htH.out _ (by
        rw [beq_iff_eq]
        exact ⟨fun h => ⟨hdone.out, h⟩, fun h => h.2⟩)
      go_wp2_with fail
      go_ret
      exact ⟨by rw [hT.out]; rfl, rfl⟩

#print axioms isTree_any
end Go.Proofs.Ytejckoffllhjcaa
