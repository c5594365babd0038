/-
  The contracts of (*system).done and kept of package snap.
-/
import Derived.Test.YtebighmddimnkaaSys
namespace Go.Proofs.Ytebighmddimnkaa
open Go.RowKit Go.Maps

def DonRel (w : World) (S : St) (k : Nat) (wr : World) : Prop := (∀ i, i < k → S.rc i = true) ∧ Below w.heap.size w wr
def DonRel2 (w : World) (n M r : Nat) (ch : Nat → Nat → Nat) (S : St) (wr : World) : Prop := ∃ L, RngP wr M r 100 (chF n ch) L ∧ (∀ i j, Chl n i j → L i j = false → S.cl i j = true) ∧ w.heap.size ≤ r ∧ Below w.heap.size w wr
theorem RngP.below {w w' : World} {M r n : Nat} {f : Nat → Nat → Option Value} {L : Nat → Nat → Bool} (h : RngP w M r n f L) (hb : Below w.heap.size w w') : RngP w' M r n f L :=
  h.block (hb.block M h.owns.lt) (hb.block r h.lt)

set_option maxHeartbeats 4000000 in
theorem done_any (w : World) (B s n P M : Nat) (ch : Nat → Nat → Nat) (S : St) (hS : Sys w B s n P M ch S) (hn : n ≤ 6) (C : Bool) (hC : C = true ↔ DoneS n S) :
    Calls Try.prog 16 #[.pointer (some ⟨s, 0, none⟩)] w fun e w' => e = .returned (.bool C) ∧ Below w.heap.size w w' := by
  obtain ⟨vs, hA⟩ := hS
  obtain ⟨s0, s1⟩ := hA.cells
  have hsl := hA.sys.lt
  have hMl := hA.map.lt
  have hMm := hA.map
  have hPl := hA.prs.lt
  have hprs := Lib.hid (fun i => hA.prs.cells (i := i))
  have hchn := Lib.hid (fun i j => hA.chan (i := i) (j := j))
  have hcl := Lib.hid (fun i j h => (hA.chn i j h).lt)
  have hCH := Lib.hid hC
  clear hC hA
  go_enter Try.func16, Try.ntmps16
  go_wp2_with fail
  go_loopw [12] (fun t wr => ∃ k : Nat, k ≤ n ∧ t = .int .i64 k ∧ DonRel w S k wr) (fun t _ => n - (intOf t).toNat)
  case atStart => exact ⟨0, Nat.zero_le _, rfl, fun i hi => absurd hi (by omega), Below.refl _ _⟩
  case round =>
    obtain ⟨k, hk, rfl, hall, hB⟩ := hrel
    have hallH := Lib.hid hall
    clear hall
    by_cases hlt : k < n
    · have hkI : (k : Int) < (n : Int) := by omega
      obtain ⟨p0', p1', p2'⟩ := hprs.out k hlt
      have p0 := (hB.cell (p := ⟨P, k * 3, none⟩) hPl).trans p0'
      have p1 := (hB.cell (p := ⟨P, k * 3 + 1, none⟩) hPl).trans p1'
      have p2 := (hB.cell (p := ⟨P, k * 3 + 2, none⟩) hPl).trans p2'
      clear p0' p1' p2'
      have hBa := hB.alloc hB.size (.cells #[.int .i64 (S.hv k), .bool (S.rc k), .int .i64 (S.kp k)] 61)
      generalize S.hv k = hv at *
      generalize S.kp k = kp at *
      by_cases hr : S.rc k = true
      · rw [hr] at p1 hBa
        have hall2 : Hid (∀ i, i < k + 1 → S.rc i = true) := fun i hi => by
          by_cases e : i = k
          · subst e; exact hr
          · exact hallH.out i (by omega)
        clear hr hB
        go_wp2_with fail
        go_roundw
        case rel => exact ⟨k + 1, by omega, by go_num, hall2.out, hBa⟩
        case measure => simp [intOf]; omega
      · have hrf : S.rc k = false := by simpa using hr
        have hCf : C = false := by
          cases C with
          | false => rfl
          | true => exact absurd ((hCH.out.1 rfl).1 k hlt) hr
        subst hCf
        rw [hrf] at p1 hBa
        clear hr hrf hB
        go_wp2_with fail
        go_ret
        exact ⟨rfl, hBa⟩
    · have hkn : k = n := by omega
      subst hkn
      have t1 := (hB.cell (p := ⟨s, 1, none⟩) hsl).trans s1
      have hM1 := hMm.block (hB.block M hMl)
      have hsz := hB.size
      go_wp2_with (first
        | (at_range; refine wpList_rangeP rfl _ rfl M 100 (chF k ch) rfl hM1 ?_; intro w2 hR2 hG2 hz2))
      go_frame
      have hB2 : Below w.heap.size w w2 := hB.grown hG2 hB.size (by simp)
      have hrel2 : DonRel2 w k M wr.heap.size ch S w2 := ⟨_, hR2, fun i j _ h => by simp at h, hsz, hB2⟩
      clear hB hR2 hG2 hz2 hM1 t1 hB2
      generalize wr.heap.size = r at *
      go_loopw [6] (fun _ wr => DonRel2 w k M r ch S wr) (fun _ wr => wr.rangeLeft M r)
      case atStart => exact hrel2
      case round =>
        clear hrel2
        obtain ⟨L, hR, hcls, hrl, hB⟩ := hrel
        have hclsH := Lib.hid hcls
        clear hcls
        go_wp2_with (first
          | (at_next; refine wpList_nextP rfl _ rfl M r 100 (chF k ch) L rfl hR ?_ ?_))
        · intro hno
          have hCt : C = true := hCH.out.2 ⟨hallH.out, fun i j hi hj hne => hclsH.out i j ⟨hi, hj, hne⟩ (hno i j _ (chF_yes ch ⟨hi, hj, hne⟩))⟩
          subst hCt
          clear hno
          go_wp2_with fail
          go_ret
          exact ⟨rfl, hB⟩
        · intro i j v w3 hf hL hR3 hlt3 hG3 hz3 hen
          obtain ⟨hc, rfl⟩ := chF_inv hf
          have hB3 := hB.grown hG3 hB.size (by simp; omega)
          obtain ⟨_, c1', _⟩ := hchn.out i j hc
          have c1 := (hB3.cell (p := ⟨ch i j, 1, none⟩) (hcl.out i j hc)).trans c1'
          clear c1' hf hR hB hG3
          unfold arr2 at hen
          by_cases hcj : S.cl i j = true
          · rw [hcj] at c1
            have hR3H : Hid (DonRel2 w k M r ch S w3) := ⟨_, hR3, fun a b hab h => by
              by_cases e : a = i ∧ b = j
              · rw [e.1, e.2]; exact hcj
              · exact hclsH.out a b hab (by simpa [e] using h), hrl, hB3⟩
            clear hcj hR3 hL
            generalize ch i j = cb at *
            go_wp2_with fail
            go_roundw
            case rel => exact hR3H.out
            case measure => exact hlt3
          · have hCf : C = false := by
              cases C with
              | false => rfl
              | true => exact absurd ((hCH.out.1 rfl).2 i j hc.1 hc.2.1 hc.2.2) hcj
            subst hCf
            rw [show S.cl i j = false by simpa using hcj] at c1
            clear hcj hR3 hL
            generalize ch i j = cb at *
            go_wp2_with fail
            go_ret
            exact ⟨rfl, hB3⟩

def KepRel (w : World) (g n : Nat) (S : St) (k : Nat) (wr : World) : Prop := IntRow wr g n (fun i => if i < k then S.kp i else 0) ∧ Below w.heap.size w wr
def KepRes (w : World) (n : Nat) (S : St) (e : Ending) (w' : World) : Prop := ∃ g, e = .returned (.slice (some ⟨g, 0, none⟩) n n) ∧ IntRow w' g n S.kp ∧ w.heap.size ≤ g ∧ Below w.heap.size w w'

set_option maxHeartbeats 4000000 in
theorem kept_any (w : World) (B s n P M : Nat) (ch : Nat → Nat → Nat) (S : St) (hS : Sys w B s n P M ch S) (hn : n ≤ 6) :
    Calls Try.prog 17 #[.pointer (some ⟨s, 0, none⟩)] w (KepRes w n S) := by
  obtain ⟨vs, hA⟩ := hS
  obtain ⟨s0, s1⟩ := hA.cells
  have hsl := hA.sys.lt
  have hPl := hA.prs.lt
  have hprs := Lib.hid (fun i => hA.prs.cells (i := i))
  clear hA s1
  obtain ⟨j0, hi0, hz0, hz1, hz2⟩ := info_parts infoInt
  have hJi := Lib.hid hi0; have hJz := Lib.hid hz0; have hJs := Lib.hid hz1
  have b2 : j0.bytes * n ≤ 281474976710656 := by rw [hz2]; omega
  clear hi0 hz0 hz1 hz2
  go_enter Try.func17, Try.ntmps17
  go_wp2_with (first
    | (at_make; refine wpList_make_row _ rfl _ _ 24 rfl 3 j0 (.int .i64 0) Try.underlying24 hJi.out hJz.out hJs.out rfl .i64 .i64 _ _ n rfl rfl rfl rfl b2 (by unfold maxLen; omega) ?_; intro w1 hR1 hG1
       have hB1 : Below w.heap.size w w1 := (Below.refl w.heap.size w).grown hG1 (Nat.le_refl _) (by simp)
       have t0 := (hB1.cell (p := ⟨s, 0, none⟩) hsl).trans s0
       rw [intRow_zero] at hR1
       clear hG1))
  go_loopw [17] (fun t wr => ∃ k : Nat, k ≤ n ∧ t = .int .i64 k ∧ KepRel w w.heap.size n S k wr) (fun t _ => n - (intOf t).toNat)
  case atStart => exact ⟨0, Nat.zero_le _, rfl, IntRow.congr hR1 (fun j _ => by simp), hB1⟩
  case round =>
    clear hR1 hB1 t0
    obtain ⟨k, hk, rfl, hR, hB⟩ := hrel
    by_cases hlt : k < n
    · have hkI : (k : Int) < (n : Int) := by omega
      obtain ⟨p0', p1', p2'⟩ := hprs.out k hlt
      have p0 := (hB.cell (p := ⟨P, k * 3, none⟩) hPl).trans p0'
      have p1 := (hB.cell (p := ⟨P, k * 3 + 1, none⟩) hPl).trans p1'
      have p2 := (hB.cell (p := ⟨P, k * 3 + 2, none⟩) hPl).trans p2'
      clear p0' p1' p2'
      have hRa := Row.alloc hR (.cells #[.int .i64 (S.hv k), .bool (S.rc k), .int .i64 (S.kp k)] 61)
      have hBa := hB.alloc hB.size (.cells #[.int .i64 (S.hv k), .bool (S.rc k), .int .i64 (S.kp k)] 61)
      have x1 := IntRow.at_ hRa hlt
      have xf := Row.frozen hRa k
      have hRn := IntRow.put hRa k (S.kp k)
      have hBn : Below w.heap.size w ((wr.alloc (.cells #[.int .i64 (S.hv k), .bool (S.rc k), .int .i64 (S.kp k)] 61)).setCell ⟨w.heap.size, k, none⟩ (.int .i64 (S.kp k))) := hBa.setCell (p := ⟨w.heap.size, k, none⟩) (Nat.le_refl _) _
      have hRnH : Hid (KepRel w w.heap.size n S (k + 1) ((wr.alloc (.cells #[.int .i64 (S.hv k), .bool (S.rc k), .int .i64 (S.kp k)] 61)).setCell ⟨w.heap.size, k, none⟩ (.int .i64 (S.kp k)))) := ⟨hRn.congr (fun j hj => by
        unfold updI
        by_cases e : j = k
        · subst e; rw [if_pos rfl, if_pos (by omega)]
        · rw [if_neg e]
          show (if j < k then S.kp j else 0) = _
          by_cases h1 : j < k
          · rw [if_pos h1, if_pos (by omega)]
          · rw [if_neg h1, if_neg (by omega)]), hBn⟩
      clear hR hB hRa hBa hRn hBn
      generalize S.hv k = hv at *
      generalize S.kp k = kp at *
      generalize S.rc k = rc at *
      go_wp2_with fail
      go_roundw
      case rel => exact ⟨k + 1, by omega, by go_num, hRnH.out⟩
      case measure => simp [intOf]; omega
    · have hkn : k = n := by omega
      subst hkn
      go_wp2_with fail
      go_ret
      exact ⟨_, rfl, IntRow.congr hR (fun j hj => by rw [if_pos hj]), Nat.le_refl _, hB⟩

#print axioms done_any
#print axioms kept_any
end Go.Proofs.Ytebighmddimnkaa
