/-
  The contract of beaconryref.Vector.
-/
import Derived.Test.YtpofmhlmaejmoaaVMem
import Derived.Test.YtpofmhlmaejmoaaTbl
import Derived.BigQuiet
import Derived.Deep.QuietTactic
namespace Go.Proofs.Ytpofmhlmaejmoaa
open Go.RowKit Go.Maps

/-- The vector of event j is laid. -/
def RvRes (l : List Ev) (c j : Nat) (w : World) (e : Ending) (w' : World) : Prop :=
  ∃ g, e = .returned (.slice (some ⟨g, 0, none⟩) c c) ∧ Nums w' w'.heap.size (some ⟨g, 0, none⟩) (vlist l c j) ∧ Below w.heap.size w w'
/-- Counted up to k. -/
def pc (l : List Ev) (j k : Nat) : Nat → Int := fun p => ((pcnt l (knows l j) (p : Int) k : Nat) : Int)
def RvRel (l : List Ev) (c j : Nat) (w : World) (k : Nat) (wr : World) : Prop := IntRow wr w.heap.size c (pc l j k) ∧ Below w.heap.size w wr

theorem pc_take {l : List Ev} {j k q : Nat} (hp : (ev l k).p = (q : Int)) (hk : knows l j k = true) : updI (pc l j k) q (pc l j k q + 1) = pc l j (k + 1) := by
  funext x
  unfold updI pc
  by_cases e : x = q
  · subst e
    rw [if_pos rfl, pcnt, if_pos ⟨hk, hp⟩]
    omega
  · rw [if_neg e, pcnt, if_neg (fun h => e (by have := h.2; omega)), Nat.add_zero]
theorem pc_skip {l : List Ev} {j k : Nat} (hk : knows l j k = false) : pc l j k = pc l j (k + 1) := by
  funext x
  unfold pc
  rw [pcnt, if_neg (by simp [hk]), Nat.add_zero]

set_option maxHeartbeats 4000000 in
set_option maxRecDepth 100000 in
theorem rvector_ok (A : Option Addr) (cap : Nat) (l : List Ev) (c j : Nat) (w : World) (B T : Nat) (gs : Nat → Nat) (f : Nat → Nat → Bool) (hE : Evs w w.heap.size A l) (h0 : checkCode (c : Int) l = 0) (hT : Tab w B T l.length l.length gs f) (hf : Hid (∀ i j, i < l.length → j < l.length → (f i j = true ↔ HB l i j))) (hj : j < l.length) :
    Calls Try.prog 21 #[.int .i64 (c : Int), .slice A l.length cap, .slice (some ⟨T, 0, none⟩) l.length l.length, .int .i64 (j : Int)] w (RvRes l c j w) := by
  obtain ⟨⟨hn1, hn2, h30⟩, hg⟩ := check_good.1 h0
  obtain ⟨j0, hi0, hz0, hz1, hz2⟩ := info_parts infoInt
  have b2 : j0.bytes * c ≤ 281474976710656 := by rw [hz2]; omega
  have hJi := Lib.hid hi0; have hJz := Lib.hid hz0; have hJs := Lib.hid hz1
  clear hi0 hz0 hz1 hz2
  have hgH := Lib.hid hg
  clear hg h0
  go_enter Try.func21, Try.ntmps21
  go_wp2_with (first
    | (at_make; refine wpList_make_row _ rfl _ _ 23 rfl 3 j0 (.int .i64 0) Try.underlying23 hJi.out hJz.out hJs.out rfl .i64 .i64 _ _ c rfl rfl rfl rfl b2 (by unfold maxLen; omega) ?_; intro w1 hR1 hG1))
  have hB1 : Below w.heap.size w w1 := (Below.refl _ _).grown hG1 (Nat.le_refl _) (by simp)
  rw [intRow_zero] at hR1
  have hR2 : IntRow w1 w.heap.size c (pc l j 0) := hR1
  clear hR1 hG1
  go_loopw [10] (fun t wr => ∃ k : Nat, k ≤ j + 1 ∧ t = .int .i64 k ∧ RvRel l c j w k wr) (fun t _ => j + 1 - (intOf t).toNat)
  case atStart => exact ⟨0, Nat.zero_le _, rfl, hR2, hB1⟩
  case round =>
    clear hR2 hB1
    obtain ⟨k, hk, rfl, hR, hB⟩ := hrel
    by_cases hlt : k < j + 1
    · have hkl : k < l.length := by omega
      have hkI : (k : Int) ≤ (j : Int) := by omega
      obtain ⟨b, off, rfl, hb, hc⟩ := hE.below hB (by omega)
      obtain ⟨c0, _, _⟩ := hc k hkl
      clear hc
      have hpr := hgH.out.proc k hkl
      have hev := Lib.hid (ev_get l hkl)
      rw [hev.out] at hpr
      generalize l[k] = e0 at *
      obtain ⟨p, kd, m⟩ := e0
      simp only at c0 hpr
      obtain ⟨q, rfl⟩ := Int.eq_ofNat_of_zero_le hpr.1
      have hqc : q < c := by omega
      have hqI : (q : Int) < (c : Int) := by omega
      clear hpr
      have hevp : Hid ((ev l k).p = (q : Int)) := by unfold Hid; rw [hev.out]
      have hT2 := hT.below hB
      have s1 := hT2.slot (i := k) hkl hkl
      have x1 := hT2.cell (i := k) (j := j) hkl hj
      have hkn : Hid (knows l j k = true ↔ (k = j ∨ f k j = true)) := by
        unfold Hid
        rw [knows_iff hgH.out.sole hj, hf.out k j hkl hj]
      have y1 := hR.at_ hqc
      have yf := Row.frozen hR q
      have hle := pcnt_le l (knows l j) (q : Int) k
      have hRn : Hid (knows l j k = true → IntRow (wr.setCell ⟨w.heap.size, q, none⟩ (.int .i64 (pc l j k q + 1))) w.heap.size c (pc l j (k + 1))) := fun h => by
        rw [← pc_take hevp.out h]
        exact hR.put q _
      have hBn : Below w.heap.size w (wr.setCell ⟨w.heap.size, q, none⟩ (.int .i64 (pc l j k q + 1))) := hB.setCell (p := ⟨w.heap.size, q, none⟩) (Nat.le_refl _) _
      have hRs : Hid (knows l j k = false → IntRow wr w.heap.size c (pc l j (k + 1))) := fun h => by
        rw [← pc_skip h]; exact hR
      obtain ⟨a, haH⟩ : ∃ a, Hid (pcnt l (knows l j) (q : Int) k = a) := ⟨_, rfl⟩
      have hpa : pc l j k q = (a : Int) := by unfold pc; rw [haH.out]
      rw [haH.out] at hle
      rw [hpa] at y1 hBn
      simp only [hpa] at hRn
      clear hpa hT2 hR
      have hjI : (j : Int) < (l.length : Int) := by omega
      have hkI2 : (k : Int) < (l.length : Int) := by omega
      by_cases e : k = j
      · have hR5 := hRn.out (hkn.out.2 (.inl e))
        subst e
        clear hRn hRs hkn
        go_wp2_with fail
        go_region
        go_wp2_with fail
        go_roundw
        case rel => exact ⟨k + 1, by omega, by go_num, hR5.heap rfl, hBn.drew⟩
        case measure => simp [intOf]
      · have v1 : ((k : Int) == (j : Int)) = false := by simp; omega
        have v2 : (k == j) = false := by simp; omega
        cases hfk : f k j with
        | true =>
          have hR5 := hRn.out (hkn.out.2 (.inr hfk))
          rw [hfk] at x1
          clear hRn hRs hkn e hfk
          go_wp2_with fail
          go_region
          go_wp2_with fail
          go_roundw
          case rel => exact ⟨k + 1, by omega, by go_num, hR5.heap rfl, hBn.drew⟩
          case measure => simp [intOf]; omega
        | false =>
          have hR5 := hRs.out (by
            rw [← Bool.not_eq_true, hkn.out]
            rintro (h | h)
            · exact e h
            · rw [hfk] at h; cases h)
          rw [hfk] at x1
          clear hRn hRs hkn e hfk
          go_wp2_with fail
          go_roundw
          case rel => exact ⟨k + 1, by omega, by go_num, hR5, hB⟩
          case measure => simp [intOf]; omega
    · have hkj : k = j + 1 := by omega
      subst hkj
      have hN : Nums wr wr.heap.size (some ⟨w.heap.size, 0, none⟩) (vlist l c j) := hR.numsAt (Row.lt hR) (vlist_len l c j) (fun x hx => by
        have hxc : x < c := by rw [vlist_len] at hx; exact hx
        rw [← vat_get _ hx, vlist_at l j hxc, vec_upto hgH.out.sole hj]
        rfl)
      have hd1 : decide (((j + 1 : Nat) : Int) ≤ (j : Int)) = false := by simp; omega
      have hd2 : ¬ ((j : Int) + 1 ≤ (j : Int)) := by omega
      go_wp2_with fail
      go_ret
      exact ⟨_, rfl, hN, hB⟩

#print axioms rvector_ok
end Go.Proofs.Ytpofmhlmaejmoaa
