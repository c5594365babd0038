/-
  The contracts of (*system).record, mark and send of package snap.
-/
import Derived.Test.YtebighmddimnkaaPut
namespace Go.Proofs.Ytebighmddimnkaa
open Go.RowKit Go.Maps

theorem marks_len (S : St) (i m a b : Nat) : ((S.marks i m).q a b).length ≤ (S.q a b).length + 1 := by
  simp only [St.marks]
  split <;> simp
def RecRel (B s n P M : Nat) (ch : Nat → Nat → Nat) (S : St) (w : World) (i m : Nat) (wr : World) : Prop := Sys wr B s n P M ch ((S.rec0 i).marks i m) ∧ Bl B w wr

set_option maxHeartbeats 1600000 in
theorem record_any (w : World) (B s n P M : Nat) (ch : Nat → Nat → Nat) (S : St) (hS : Sys w B s n P M ch S) (i : Nat) (hi : i < n) (hn : n ≤ 6) (hl : ∀ a b, (S.q a b).length ≤ 900) :
    Calls Try.prog 27 #[.pointer (some ⟨s, 0, none⟩), .int .i64 (i : Int)] w fun e w' => e = .returned (.tuple #[]) ∧ Sys w' B s n P M ch (S.record n i) ∧ Bl B w w' := by
  obtain ⟨vs, hA⟩ := hS
  obtain ⟨s0, _⟩ := hA.cells
  have hlH := Lib.hid hl
  clear hl
  have hlow := hA.lowP
  obtain ⟨p0, p1, p2⟩ := hA.prs.cells hi
  have hf1 := hA.prs.frozen (i * 3 + 1)
  have hA1 := hA.setRc hi true
  have hA2 := hA1.setKp hi (S.hv i)
  obtain ⟨xs1, hP1, _⟩ := hA.prs
  obtain ⟨xs2, hP2, _⟩ := hA1.prs
  have hB2 : Bl B w ((w.setCell ⟨P, i * 3 + 1, none⟩ (.bool true)).setCell ⟨P, i * 3 + 2, none⟩ (.int .i64 (S.hv i))) := ((Bl.refl B w).setRow (p := ⟨P, i * 3 + 1, none⟩) hP1 (by decide) hlow _).setRow (p := ⟨P, i * 3 + 2, none⟩) hP2 (by decide) hlow _
  obtain ⟨r0, r1, r2⟩ := hA1.prs.cells hi
  obtain ⟨t0, t1⟩ := hA1.cells
  obtain ⟨z0, z1⟩ := hA2.cells
  have hf2 := hA1.prs.frozen (i * 3 + 2)
  have hS2 : Sys ((w.setCell ⟨P, i * 3 + 1, none⟩ (.bool true)).setCell ⟨P, i * 3 + 2, none⟩ (.int .i64 (S.hv i))) B s n P M ch (S.rec0 i) := ⟨vs, hA2⟩
  simp only at r0 r1 r2
  clear hA hA1 hA2 t1 z1 r1 hP1 hP2
  have hiI : (i : Int) < (n : Int) := by omega
  generalize hhv : S.hv i = hv at *
  have hhvH := Lib.hid hhv
  clear hhv
  have hS2H := Lib.hid hS2
  clear hS2
  go_enter Try.func27, Try.ntmps27
  go_wp2_with fail
  generalize (w.setCell ⟨P, i * 3 + 1, none⟩ (.bool true)).setCell ⟨P, i * 3 + 2, none⟩ (.int .i64 hv) = w2 at *
  have hS2 := hS2H.out
  clear hS2H
  go_loopw [27] (fun t wr => ∃ m : Nat, m ≤ n ∧ t = .int .i64 m ∧ RecRel B s n P M ch S w i m wr) (fun t _ => n - (intOf t).toNat)
  case atStart => exact ⟨0, Nat.zero_le _, rfl, by rw [St.marks_zero]; exact hS2, hB2⟩
  case round =>
    obtain ⟨m, hm, rfl, hSm, hBm⟩ := hrel
    clear hB2 hS2
    by_cases hlt : m < n
    · have hmI : (m : Int) < (n : Int) := by omega
      by_cases e : m = i
      · have v1 : ((m : Int) != (i : Int)) = false := by simp [e]
        have hnx : Hid ((S.rec0 i).marks i (m + 1) = (S.rec0 i).marks i m) := by unfold Hid; rw [e]; exact St.marks_skip _ _
        clear e
        go_wp2_with fail
        go_roundw
        case rel => exact ⟨m + 1, by omega, by go_num, by rw [hnx.out]; exact hSm, hBm⟩
        case measure => simp [intOf]; omega
      · have v1 : ((m : Int) != (i : Int)) = true := by simp; omega
        have hnx := Lib.hid (St.marks_put (S.rec0 i) e)
        have hcH : Hid (Chl n i m) := ⟨hi, hlt, fun h => e h.symm⟩
        have hln : Hid ((((S.rec0 i).marks i m).q i m).length ≤ 1000) := by
          have h1 := marks_len (S.rec0 i) i m i m
          have h2 := hlH.out i m
          have h3 : (S.rec0 i).q i m = S.q i m := rfl
          rw [h3] at h1
          unfold Hid
          omega
        clear e
        go_wp2_with fail
        refine (put_any _ B s n P M ch _ hSm i m hcH.out 0 hln.out).mono ?_
        rintro e w3 ⟨rfl, hS3, hB3⟩
        have hB4 := hBm.trans hB3
        rw [hnx.out] at hS3
        clear hSm hBm hB3
        go_wp2_with fail
        go_roundw
        case rel => exact ⟨m + 1, by omega, by go_num, hS3, hB4⟩
        case measure => simp [intOf]; omega
    · have hmn : m = n := by omega
      subst hmn
      go_wp2_with fail
      go_end0
      exact ⟨rfl, hSm, hBm⟩

set_option maxHeartbeats 800000 in
theorem mark_any (w : World) (B s n P M : Nat) (ch : Nat → Nat → Nat) (S : St) (hS : Sys w B s n P M ch S) (x : Int) (hn : n ≤ 6) (hl : ∀ a b, (S.q a b).length ≤ 900) (T : St) (c : Int)
    (hT : (T, c) = if ¬ (0 ≤ x ∧ x < n) then (S, 2) else if S.rc x.toNat = true then (S, 7) else (S.record n x.toNat, 0)) :
    Calls Try.prog 23 #[.pointer (some ⟨s, 0, none⟩), .int .i64 x] w fun e w' => e = .returned (.int .i64 c) ∧ Sys w' B s n P M ch T ∧ Bl B w w' := by
  have hlH := Lib.hid hl
  have hSH := Lib.hid hS
  obtain ⟨vs, hA⟩ := hS
  obtain ⟨s0, _⟩ := hA.cells
  by_cases hx : 0 ≤ x ∧ x < n
  · rw [if_neg (fun h => h hx)] at hT
    obtain ⟨i, rfl⟩ : ∃ i : Nat, x = (i : Int) := ⟨x.toNat, by omega⟩
    have hi : i < n := by omega
    have hiI : (i : Int) < (n : Int) := by omega
    rw [Int.toNat_natCast] at hT
    obtain ⟨_, p1, _⟩ := hA.prs.cells hi
    clear hA hl hx
    by_cases hr : S.rc i = true
    · rw [if_pos hr] at hT
      obtain ⟨rfl, rfl⟩ := Prod.mk.inj hT
      rw [hr] at p1
      clear hr hT
      go_enter Try.func23, Try.ntmps23
      go_wp2_with fail
      refine (has_any w s n P (i : Int) s0 true ⟨fun _ => ⟨by omega, by omega⟩, fun _ => rfl⟩).mono ?_
      rintro e w1 ⟨rfl, rfl⟩
      go_wp2_with fail
      go_ret
      exact ⟨rfl, hSH.out, Bl.refl _ _⟩
    · rw [if_neg hr] at hT
      obtain ⟨rfl, rfl⟩ := Prod.mk.inj hT
      rw [show S.rc i = false by simpa using hr] at p1
      clear hr hT
      go_enter Try.func23, Try.ntmps23
      go_wp2_with fail
      refine (has_any w s n P (i : Int) s0 true ⟨fun _ => ⟨by omega, by omega⟩, fun _ => rfl⟩).mono ?_
      rintro e w1 ⟨rfl, rfl⟩
      go_wp2_with fail
      refine (record_any _ B s n P M ch S hSH.out i hi hn hlH.out).mono ?_
      rintro e w2 ⟨rfl, hS2, hB2⟩
      go_wp2_with fail
      go_ret
      exact ⟨rfl, hS2, hB2⟩
  · rw [if_pos hx] at hT
    obtain ⟨rfl, rfl⟩ := Prod.mk.inj hT
    have hxH := Lib.hid hx
    clear hx hA hl
    go_enter Try.func23, Try.ntmps23
    go_wp2_with fail
    refine (has_any w s n P x s0 false ⟨fun h => absurd h (by decide), fun h => absurd h hxH.out⟩).mono ?_
    rintro e w1 ⟨rfl, rfl⟩
    go_wp2_with fail
    go_ret
    exact ⟨rfl, hSH.out, Bl.refl _ _⟩

set_option maxHeartbeats 800000 in
theorem send_any (w : World) (B s n P M : Nat) (ch : Nat → Nat → Nat) (S : St) (hS : Sys w B s n P M ch S) (i j : Nat) (hc : Chl n i j) (x : Int) (hl : ∀ a b, (S.q a b).length ≤ 900) (hv0 : 0 ≤ S.hv i) (hv1 : S.hv i ≤ 1000) (hx : I64 x) (T : St) (c : Int)
    (hT : (T, c) = if x < 1 ∨ S.hv i < x then (S, 4) else (S.send i j x, 0)) :
    Calls Try.prog 25 #[.pointer (some ⟨s, 0, none⟩), .int .i64 (i : Int), .int .i64 (j : Int), .int .i64 x] w fun e w' => e = .returned (.int .i64 c) ∧ Sys w' B s n P M ch T ∧ Bl B w w' := by
  have hlH := Lib.hid hl
  have hSH := Lib.hid hS
  obtain ⟨vs, hA⟩ := hS
  obtain ⟨s0, _⟩ := hA.cells
  have hi := hc.1
  have hiI : (i : Int) < (n : Int) := by omega
  obtain ⟨p0, _, _⟩ := hA.prs.cells hi
  have hf0 := hA.prs.frozen (i * 3)
  have hlow := hA.lowP
  have hcH := Lib.hid hc
  obtain ⟨xs1, hP1, _⟩ := hA.prs
  have hA1 : Sys (w.setCell ⟨P, i * 3, none⟩ (.int .i64 (S.hv i - x))) B s n P M ch (S.pay i x) := ⟨vs, hA.setHv hi _⟩
  have hB1 : Bl B w (w.setCell ⟨P, i * 3, none⟩ (.int .i64 (S.hv i - x))) := (Bl.refl B w).setRow (p := ⟨P, i * 3, none⟩) hP1 (by decide) hlow _
  have hA1H := Lib.hid hA1
  clear hA hl hc hA1 hP1
  obtain ⟨hx1, hx2⟩ := hx
  by_cases h1 : x < 1
  · rw [if_pos (.inl h1)] at hT
    obtain ⟨rfl, rfl⟩ := Prod.mk.inj hT
    clear hT hA1H hB1
    generalize T.hv i = hv at *
    go_enter Try.func25, Try.ntmps25
    go_wp2_with fail
    go_ret
    exact ⟨rfl, hSH.out, Bl.refl _ _⟩
  · by_cases h2 : S.hv i < x
    · rw [if_pos (.inr h2)] at hT
      obtain ⟨rfl, rfl⟩ := Prod.mk.inj hT
      clear hT hA1H hB1
      generalize T.hv i = hv at *
      go_enter Try.func25, Try.ntmps25
      go_wp2_with fail
      go_ret
      exact ⟨rfl, hSH.out, Bl.refl _ _⟩
    · rw [if_neg (by omega)] at hT
      obtain ⟨rfl, rfl⟩ := Prod.mk.inj hT
      clear hT
      have hln : Hid (((S.pay i x).q i j).length ≤ 1000) := Nat.le_trans (hlH.out i j) (by omega)
      generalize S.hv i = hv at *
      go_enter Try.func25, Try.ntmps25
      go_wp2_with fail
      refine (put_any _ B s n P M ch (S.pay i x) hA1H.out i j hcH.out x hln.out).mono ?_
      rintro e w2 ⟨rfl, hS2, hB2⟩
      have hB3 := hB1.trans hB2
      clear hB1 hB2
      go_wp2_with fail
      go_ret
      exact ⟨rfl, hS2, hB3⟩

#print axioms record_any
#print axioms mark_any
#print axioms send_any
end Go.Proofs.Ytebighmddimnkaa
