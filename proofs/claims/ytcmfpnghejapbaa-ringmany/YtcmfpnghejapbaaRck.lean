/-
  The contracts of slices.Index and slices.Contains at []int, ring.check, beaconryref.RingCheck, beaconrykeep.ringed.
-/
import Derived.Test.YtcmfpnghejapbaaRows
import Derived.Test.YtcmfpnghejapbaaHlf
import Derived.KernelRfl
import Derived.BigQuiet
import Derived.Deep.QuietTactic
namespace Go.Proofs.Ytcmfpnghejapbaa
open Go.RowKit Go.Maps

theorem nums_at {w : World} {B : Nat} {A : Option Addr} {l : List Int} (h : Nums w B A l) {i : Nat} (hi : i < l.length) : ∃ b off, A = some ⟨b, off, none⟩ ∧ b < B ∧ w.cell? ⟨b, off + i, none⟩ = some (.int .i64 (vat l i)) := by
  obtain ⟨b, off, e, hb, hc⟩ := h (by omega)
  exact ⟨b, off, e, hb, by rw [vat_get l hi]; exact hc i hi⟩
theorem nums_cells {w : World} {B : Nat} {A : Option Addr} {l : List Int} (h : Nums w B A l) (h0 : 0 < l.length) : ∃ b off, A = some ⟨b, off, none⟩ ∧ b < B ∧ ∀ i, i < l.length → w.cell? ⟨b, off + i, none⟩ = some (.int .i64 (vat l i)) := by
  obtain ⟨b, off, e, hb, hc⟩ := h h0
  exact ⟨b, off, e, hb, fun i hi => by rw [vat_get l hi]; exact hc i hi⟩
theorem Nums.take {w : World} {B : Nat} {A : Option Addr} {l : List Int} (h : Nums w B A l) (k : Nat) : Nums w B A (l.take k) := by
  intro h0
  have hl : (l.take k).length ≤ l.length := by simp; omega
  obtain ⟨b, off, e, hb, hc⟩ := h (by omega)
  exact ⟨b, off, e, hb, fun i hi => by simp only [List.getElem_take]; exact hc i (by omega)⟩

theorem take_nodup {l : List Int} {k : Nat} (hk : k < l.length) (h : (l.take k).Nodup) (hn : ¬ vat l k ∈ l.take k) : (l.take (k + 1)).Nodup := by
  rw [List.take_succ_eq_append_getElem hk, List.nodup_append]
  refine ⟨h, by simp, fun a ha b hb => ?_⟩
  rw [List.mem_singleton.1 hb]
  intro e
  rw [vat_get l hk] at hn
  exact hn (e ▸ ha)
theorem take_dup {l : List Int} {k : Nat} (hk : k < l.length) (h : vat l k ∈ l.take k) : ¬ l.Nodup := by
  intro hN
  obtain ⟨j, hj, e⟩ := List.getElem_of_mem h
  rw [List.getElem_take, vat_get l hk] at e
  have hj' : j < k := by simp at hj; omega
  exact List.pairwise_iff_getElem.1 hN j k (by omega) hk hj' e
theorem mem_take {l : List Int} {j k : Nat} (hj : j < k) (hk : k ≤ l.length) : vat l j ∈ l.take k := by
  rw [vat_get l (by omega)]
  have : (l.take k)[j]'(by simp; omega) = l[j]'(by omega) := List.getElem_take
  rw [← this]
  exact List.getElem_mem _
theorem not_mem_take {l : List Int} {k : Nat} {x : Int} (hk : k ≤ l.length) (h : ∀ j, j < k → vat l j ≠ x) : ¬ x ∈ l.take k := by
  intro hx
  obtain ⟨j, hj, e⟩ := List.getElem_of_mem hx
  have hj' : j < k := by simp at hj; omega
  rw [List.getElem_take, ← vat_get l (by omega)] at e
  exact h j hj' e

set_option maxHeartbeats 400000 in
theorem index_any (A : Option Addr) (cap : Nat) (o : List Int) (x : Int) (w : World) (hE : Nums w w.heap.size A o) (hl : o.length ≤ 1000) :
    Calls Try.prog 31 #[.slice A o.length cap, .int .i64 x] w fun e w' => ∃ k : Int, e = .returned (.int .i64 k) ∧ (0 ≤ k ↔ x ∈ o) ∧ w = w' := by
  go_enter Try.func31, Try.ntmps31
  go_wp2
  go_loop [8] (fun i => ∃ k : Nat, k ≤ o.length ∧ i = .int .i64 k ∧ Hid (∀ j, (h : j < o.length) → j < k → o[j] ≠ x)) (fun i => o.length - (intOf i).toNat)
  case atStart => exact ⟨0, Nat.zero_le _, rfl, fun _ _ h => absurd h (Nat.not_lt_zero _)⟩
  case round =>
    obtain ⟨k, hk, rfl, hr⟩ := hrel
    by_cases hlt : k < o.length
    · obtain ⟨b, off, rfl, hb, hc⟩ := hE (by omega)
      have c0 := hc k hlt
      clear hc
      by_cases he : o[k] = x
      · have hf : Hid (x ∈ o) := by unfold Hid; rw [← he]; exact List.getElem_mem hlt
        generalize o[k] = y at *
        have hb1 : (x == y) = true := by simp [he]
        clear he
        go_wp2
        go_ret
        exact ⟨k, rfl, ⟨fun _ => hf.out, fun _ => by omega⟩, rfl⟩
      · have hn : Hid (∀ j, (h : j < o.length) → j < k + 1 → o[j] ≠ x) := fun j h hj => by
          by_cases e : j = k
          · subst e; exact he
          · exact hr.out j h (by omega)
        generalize o[k] = y at *
        have hb1 : (x == y) = false := by simp; exact fun h => he h.symm
        clear he
        go_wp2
        go_round
        case rel => exact ⟨k + 1, by omega, by go_num, hn⟩
        case measure => simp [intOf]; omega
    · have hf : Hid (¬ x ∈ o) := by
        unfold Hid
        intro h
        obtain ⟨j, hj, e⟩ := List.getElem_of_mem h
        exact hr.out j hj (by omega) e
      go_wp2
      go_ret
      exact ⟨-1, rfl, ⟨fun h => absurd h (by omega), fun h => absurd h hf.out⟩, rfl⟩

set_option maxHeartbeats 400000 in
theorem contains_any (A : Option Addr) (cap : Nat) (o : List Int) (x : Int) (w : World) (hE : Nums w w.heap.size A o) (hl : o.length ≤ 1000) (C : Bool) (hC : C = true ↔ x ∈ o) :
    Calls Try.prog 26 #[.slice A o.length cap, .int .i64 x] w fun e w' => e = .returned (.bool C) ∧ w = w' := by
  have hCH := Lib.hid hC
  have hEH := Lib.hid hE
  clear hC hE
  go_enter Try.func26, Try.ntmps26
  go_wp2_with fail
  refine (index_any A cap o x w hEH.out hl).mono ?_
  rintro e w1 ⟨k, rfl, hk, rfl⟩
  have hkC : Hid (C = decide (0 ≤ k)) := by
    unfold Hid
    rw [Bool.eq_iff_iff, hCH.out, ← hk]
    simp
  clear hk hCH
  go_wp2_with fail
  go_ret
  exact ⟨by rw [hkC.out]; rfl, rfl⟩

set_option maxHeartbeats 800000 in
theorem rcheck_any (A : Option Addr) (cap : Nat) (l : List Int) (w : World) (hE : Nums w w.heap.size A l) (hc : l.length ≤ cap) (hl : l.length ≤ 17592186044416) :
    Calls Try.prog 20 #[.slice A l.length cap] w fun e w' => e = .returned (.int .i64 (rcode l)) ∧ w = w' := by
  by_cases hz : l.length < 1
  · have e1 : rcode l = 1 := by unfold rcode; rw [if_pos (.inl hz)]
    rw [e1]
    clear e1
    have hzI : (l.length : Int) < 1 := by omega
    go_enter Try.func20, Try.ntmps20
    go_wp2_with fail
    go_ret
    exact ⟨rfl, rfl⟩
  have hzI : ¬ (l.length : Int) < 1 := by omega
  by_cases hg : 12 < l.length
  · have e1 : rcode l = 1 := by unfold rcode; rw [if_pos (.inr hg)]
    rw [e1]
    clear e1
    have hgI : (12 : Int) < (l.length : Int) := by omega
    go_enter Try.func20, Try.ntmps20
    go_wp2_with fail
    go_ret
    exact ⟨rfl, rfl⟩
  have hgI : ¬ (12 : Int) < (l.length : Int) := by omega
  obtain ⟨C, hC⟩ : ∃ C, Hid (C = rcode l) := ⟨_, rfl⟩
  rw [← hC.out]
  obtain ⟨b, off, rfl, hb, hcells⟩ := nums_cells hE (by omega)
  have hEH := Lib.hid hE
  clear hE
  have hcH := Lib.hid hcells
  clear hcells
  go_enter Try.func20, Try.ntmps20
  go_wp2_with fail
  go_loop [15] (fun i => ∃ k : Nat, k ≤ l.length ∧ i = .int .i64 k ∧ Hid ((l.take k).Nodup)) (fun i => l.length - (intOf i).toNat)
  case atStart => exact ⟨0, Nat.zero_le _, rfl, by unfold Hid; simp⟩
  case round =>
    obtain ⟨k, hk, rfl, hr⟩ := hrel
    by_cases hlt : k < l.length
    · have c0 := hcH.out k hlt
      have hkI : (k : Int) < (l.length : Int) := by omega
      have hkc : (k : Int) ≤ (cap : Int) := by omega
      have htl : Hid ((l.take k).length = k) := by unfold Hid; simp; omega
      by_cases he : vat l k ∈ l.take k
      · have h3 : Hid (C = 3) := by
          unfold Hid
          rw [hC.out]
          unfold rcode
          rw [if_neg (by omega), if_neg (take_dup hlt he)]
        have hcall := contains_any (some ⟨b, off, none⟩) cap (l.take k) (vat l k) w (hEH.out.take k) (by have := htl.out; omega) true ⟨fun _ => he, fun _ => rfl⟩
        rw [htl.out] at hcall
        have hcallH := Lib.hid hcall
        clear hcall he
        generalize vat l k = y at *
        go_wp2_with fail
        refine hcallH.out.mono ?_
        rintro e w1 ⟨rfl, rfl⟩
        go_wp2_with fail
        go_ret
        exact ⟨by rw [h3.out]; rfl, rfl⟩
      · have hn : Hid ((l.take (k + 1)).Nodup) := take_nodup hlt hr.out he
        have hcall := contains_any (some ⟨b, off, none⟩) cap (l.take k) (vat l k) w (hEH.out.take k) (by have := htl.out; omega) false ⟨(nomatch ·), fun h => absurd h he⟩
        rw [htl.out] at hcall
        have hcallH := Lib.hid hcall
        clear hcall he
        generalize vat l k = y at *
        go_wp2_with fail
        refine hcallH.out.mono ?_
        rintro e w1 ⟨rfl, rfl⟩
        go_wp2_with fail
        go_round
        case rel => exact ⟨k + 1, by omega, by go_num, hn⟩
        case measure => simp [intOf]; omega
    · have hkl : k = l.length := by omega
      subst hkl
      have h0 : Hid (C = 0) := by
        unfold Hid
        rw [hC.out]
        unfold rcode
        rw [if_neg (by omega), if_pos (by have := hr.out; rw [List.take_length] at this; exact this)]
      go_wp2_with fail
      go_ret
      exact ⟨by rw [h0.out]; rfl, rfl⟩

def RckRel (l : List Int) (w : World) (k : Nat) (wr : World) : Prop := (l.take k).Nodup ∧ Below w.heap.size w wr
def RckIn (l : List Int) (w : World) (k m : Nat) (wr : World) : Prop := (∀ j, j < m → vat l j ≠ vat l k) ∧ Below w.heap.size w wr

set_option maxHeartbeats 1600000 in
theorem rrcheck_any (A : Option Addr) (cap : Nat) (l : List Int) (w : World) (hE : Nums w w.heap.size A l) (hl : l.length ≤ 17592186044416) :
    Calls Try.prog 11 #[.slice A l.length cap] w fun e w' => e = .returned (.int .i64 (rcode l)) ∧ Below w.heap.size w w' := by
  by_cases hz : l.length < 1
  · have e1 : rcode l = 1 := by unfold rcode; rw [if_pos (.inl hz)]
    rw [e1]
    clear e1
    have hzI : (l.length : Int) < 1 := by omega
    go_enter Try.func11, Try.ntmps11
    go_wp2_with fail
    go_ret
    exact ⟨rfl, Below.refl _ _⟩
  have hzI : ¬ (l.length : Int) < 1 := by omega
  by_cases hg : 12 < l.length
  · have e1 : rcode l = 1 := by unfold rcode; rw [if_pos (.inr hg)]
    rw [e1]
    clear e1
    have hgI : (12 : Int) < (l.length : Int) := by omega
    go_enter Try.func11, Try.ntmps11
    go_wp2_with fail
    go_ret
    exact ⟨rfl, Below.refl _ _⟩
  have hgI : ¬ (12 : Int) < (l.length : Int) := by omega
  obtain ⟨C, hC⟩ : ∃ C, Hid (C = rcode l) := ⟨_, rfl⟩
  rw [← hC.out]
  have hEH := Lib.hid hE
  clear hE
  go_enter Try.func11, Try.ntmps11
  go_wp2_with fail
  go_loopw [3] (fun i wr => ∃ k : Nat, k ≤ l.length ∧ i = .int .i64 k ∧ RckRel l w k wr) (fun i _ => l.length - (intOf i).toNat)
  case atStart => exact ⟨0, Nat.zero_le _, rfl, by simp, Below.refl _ _⟩
  case round =>
    obtain ⟨k, hk, rfl, hr, hB⟩ := hrel
    have hrH := Lib.hid hr
    clear hr
    rename World => w1
    by_cases hlt : k < l.length
    · have hkI : (k : Int) < (l.length : Int) := by omega
      go_wp2_with fail
      go_loopw [4] (fun i wr => ∃ m : Nat, m ≤ k ∧ i = .int .i64 m ∧ RckIn l w k m wr) (fun i _ => l.length - (intOf i).toNat)
      case atStart => exact ⟨0, Nat.zero_le _, rfl, fun j hj => by omega, hB⟩
      case round =>
        obtain ⟨m, hm, rfl, hq, hB2⟩ := hrel
        have hqH := Lib.hid hq
        clear hq
        by_cases hmk : m < k
        · have hmI : (m : Int) < (k : Int) := by omega
          obtain ⟨b, off, rfl, hb, hcells⟩ := nums_cells (hEH.out.below hB2) (by omega)
          have c0 := hcells k hlt
          have c1 := hcells m (by omega)
          clear hcells
          have hmI2 : (m : Int) < (l.length : Int) := by omega
          by_cases he : vat l k = vat l m
          · have h3 : Hid (C = 3) := by
              unfold Hid
              rw [hC.out]
              unfold rcode
              rw [if_neg (by omega), if_neg (take_dup hlt (by rw [he]; exact mem_take hmk hk))]
            have hb1 : (vat l k == vat l m) = true := by simp [he]
            clear he hqH
            generalize vat l k = y at *
            generalize vat l m = z at *
            go_wp2_with fail
            go_quiet (fail)
            go_wp2_with fail
            go_ret
            exact ⟨by rw [h3.out]; rfl, below_drewN hB2 _⟩
          · have hb1 : (vat l k == vat l m) = false := by simp [he]
            have hn : Hid (∀ j, j < m + 1 → vat l j ≠ vat l k) := fun j hj => by
              by_cases e : j = m
              · rw [e]; exact fun h => he h.symm
              · exact hqH.out j (by omega)
            clear he hqH
            generalize hyy : vat l k = y at *
            generalize vat l m = z at *
            have hyH := Lib.hid hyy
            clear hyy
            go_wp2_with fail
            go_quiet (fail)
            go_wp2_with fail
            go_roundw
            case rel => exact ⟨m + 1, by omega, by go_num, by rw [hyH.out]; exact hn.out, below_drewN hB2 _⟩
            case measure => simp [intOf]; omega
        · have hmk' : m = k := by omega
          subst hmk'
          have hn : Hid ((l.take (m + 1)).Nodup) := take_nodup hlt hrH.out (not_mem_take hk hqH.out)
          go_wp2_with fail
          go_roundw
          case rel => exact ⟨m + 1, by omega, by go_num, hn.out, hB2⟩
          case measure => simp [intOf]; omega
    · have hkl : k = l.length := by omega
      subst hkl
      have h0 : Hid (C = 0) := by
        unfold Hid
        rw [hC.out]
        unfold rcode
        rw [if_neg (by omega), if_pos (by have := hrH.out; rw [List.take_length] at this; exact this)]
      go_wp2_with fail
      go_ret
      exact ⟨by rw [h0.out]; rfl, hB⟩

set_option maxHeartbeats 400000 in
theorem ringed_any (A : Option Addr) (cap : Nat) (l : List Int) (w : World) (hE : Nums w w.heap.size A l) (hl : l.length ≤ 17592186044416) :
    Calls Try.prog 17 #[.slice A l.length cap] w fun e w' => e = .returned (.bool (rcode l == 0)) ∧ Below w.heap.size w w' := by
  have hEH := Lib.hid hE
  clear hE
  go_enter Try.func17, Try.ntmps17
  go_wp2_with fail
  refine (rrcheck_any A cap l w hEH.out hl).mono ?_
  rintro e w1 ⟨rfl, hB⟩
  go_wp2_with fail
  go_ret
  exact ⟨rfl, hB⟩

#print axioms rcheck_any
#print axioms rrcheck_any
#print axioms ringed_any
end Go.Proofs.Ytcmfpnghejapbaa
